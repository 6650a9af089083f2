/- What the law's row gives of the program's tables, and a world for its witness. A world for the witness of the row of LimitsAlgebra; its arguments opened; the last step of the law's row. -/
import Derived.Test.YtgdedcdjfljcnaaGreatDoorM18
import Derived.Test.YtgdedcdjfljcnaaGreatDoorRows
import Derived.ProofKit
import Derived.OpenShut
import Derived.ShutString
import Derived.Deep.DeepHandedRow
import Derived.Deep.DeepWitnessRowRef
import Derived.Deep.SlicePairs
import Derived.Lib.LaidTab
import Derived.LaidSub
import Derived.Deep.DeepLaidRun
import Derived.ChangeBears2
import Derived.Carry
import Derived.Lib.SmallJoins
import Derived.Test.YtgdedcdjfljcnaaGreatDoorM20
namespace Go.Proofs.YtgdedcdjfljcnaaGreatDoor
open Go.ChangeShapes Go.WideShapes Go.ChangeAt Go.RowKit

theorem own : ownKnob Tryz.prog.godebug = none := by kernel_rfl
section
variable {H : Type} {enc : TypeId × Value → H} {P : Program} {w : World} {base : Nat} {spare : Nat → Bool} {held : Bool} {fuel : Nat} {t : TypeId} {cs : List Value} {ds : List (DataW H)} {p : List MemPlace}
theorem arr_step {n : Nat} {e : TypeId} (ht : P.underlying t = some (.array n e)) (h : DataW.trod enc P w base spare held fuel t cs = some (.agg ds, p)) {i : Nat} {d : DataW H} (hd : ds[i]? = some d) :
    ∃ m q, DataW.trod enc P w base spare held m e ((cs.drop (i * P.cellsOf e)).take (P.cellsOf e)) = some (d, q) := by
  obtain ⟨xs, m, -, hx, -, hl, hi⟩ := DataW.trod_array ht h
  injection hx with hx1 hx2
  injection hx1 with hx1
  subst hx1
  rw [List.getElem?_map, Option.map_eq_some_iff] at hd
  obtain ⟨y, hy, rfl⟩ := hd
  have hin : i < n := by rw [← hl]; exact (List.getElem?_eq_some_iff.1 hy).1
  exact ⟨m, y.2, (hi i hin).trans hy⟩
theorem str_step {fs : Array Field} (ht : P.underlying t = some (.struct fs)) (h : DataW.trod enc P w base spare held fuel t cs = some (.agg ds, p)) {i : Nat} {d : DataW H} {f : Field} {ty : TypeId} {o : Nat} (hf : fs[i]? = some f) (hd : ds[i]? = some d) (h1 : f.type = ty) (h2 : f.offset = o) :
    ∃ m q, DataW.trod enc P w base spare held m ty ((cs.drop o).take (P.cellsOf ty)) = some (d, q) := by
  subst h1; subst h2
  obtain ⟨xs, m, -, hx, -, hl, hi⟩ := DataW.trod_struct ht h
  injection hx with hx1 hx2
  injection hx1 with hx1
  subst hx1
  rw [List.getElem?_map, Option.map_eq_some_iff] at hd
  obtain ⟨y, hy, rfl⟩ := hd
  exact ⟨m, y.2, (hi i f hf).trans hy⟩
theorem bool_leaf {b : Bool} (ht : P.underlying t = some .bool) (h : DataW.trod enc P w base spare held fuel t cs = some (.lit (.bool b), p)) : cs = [.bool b] := by
  obtain ⟨c, rfl, hx⟩ := DataW.trod_bool ht h
  injection hx with hx1
  injection hx1 with hx1
  injection hx1 with hx1
  rw [hx1]
end
theorem at_one {cs : List Value} {a n b : Nat} {v : Value} (h : (((cs.drop a).take n).drop b).take 1 = [v]) : cs[a + b]? = some v := by
  have := congrArg (·[0]?) h
  simp only [List.getElem?_take, List.getElem?_drop] at this
  simp at this
  exact this.2
theorem at_two {cs : List Value} {a n b m c : Nat} {v : Value} (h : (((((cs.drop a).take n).drop b).take m).drop c).take 1 = [v]) : cs[a + b + c]? = some v := by
  have := congrArg (·[0]?) h
  simp only [List.getElem?_take, List.getElem?_drop] at this
  simp at this
  rw [Nat.add_assoc]
  exact this.2.2

/-- What the row of this seat lists. -/
def theLaid : List (String × DataW Unit) := Rows.limitsAlgebraRow.laid
theorem laid_parts : theLaid.filter (fun x => x.1 == "examiner/notation.partsOfValues") = [("examiner/notation.partsOfValues", Rows.laid_examiner_notation_partsOfValues)] := by kernel_rfl
theorem parts_cells {W : World} (hL : laidMetH Tryz.prog theLaid W) : ∃ (cs : Array Value) (fuel : Nat) (p : List MemPlace), (∀ k, W.cell? ⟨2, k, none⟩ = cs.toList[k]?) ∧ DataW.trod (fun _ => ()) Tryz.prog W 0 (fun _ => true) false fuel 179 cs.toList = some (Rows.laid_examiner_notation_partsOfValues, p) := by
  have h := laidMetH.filter (fun x => x.1 == "examiner/notation.partsOfValues") hL
  rw [laid_parts, MakeChecks.laidMetH_plain _ _ _ (by kernel_rfl)] at h
  obtain ⟨ps, hv, -⟩ := h
  obtain ⟨g', t, cs, fuel, p, q, h1, h2, h3, h4, -⟩ := hv
  obtain rfl : 2 = g' := Option.some.inj ((show Tryz.prog.globalNamed "examiner/notation.partsOfValues" = some 2 by kernel_rfl).symm.trans h1)
  obtain rfl : 179 = t := Option.some.inj ((show (Tryz.prog.globals[2]?).map (·.type) = some 179 by kernel_rfl).symm.trans h2)
  exact ⟨cs, fuel, p, fun k => by rw [var?_cell h1 h3 k, Array.getElem?_toList], h4⟩
theorem laid_types : theLaid.filter (fun x => x.1 == "examiner/notation.typeParts") = [("examiner/notation.typeParts", Rows.laid_examiner_notation_typeParts)] := by kernel_rfl
theorem types_cells {W : World} (hL : laidMetH Tryz.prog theLaid W) : ∃ (cs : Array Value) (fuel : Nat) (p : List MemPlace), (∀ k, W.cell? ⟨1, k, none⟩ = cs.toList[k]?) ∧ DataW.trod (fun _ => ()) Tryz.prog W 0 (fun _ => true) false fuel 173 cs.toList = some (Rows.laid_examiner_notation_typeParts, p) := by
  have h := laidMetH.filter (fun x => x.1 == "examiner/notation.typeParts") hL
  rw [laid_types, MakeChecks.laidMetH_plain _ _ _ (by kernel_rfl)] at h
  obtain ⟨ps, hv, -⟩ := h
  obtain ⟨g', t, cs, fuel, p, q, h1, h2, h3, h4, -⟩ := hv
  obtain rfl : 1 = g' := Option.some.inj ((show Tryz.prog.globalNamed "examiner/notation.typeParts" = some 1 by kernel_rfl).symm.trans h1)
  obtain rfl : 173 = t := Option.some.inj ((show (Tryz.prog.globals[1]?).map (·.type) = some 173 by kernel_rfl).symm.trans h2)
  exact ⟨cs, fuel, p, fun k => by rw [var?_cell h1 h3 k, Array.getElem?_toList], h4⟩
theorem laid_kinds : theLaid.filter (fun x => x.1 == "examiner/limits.valueKinds") = [("examiner/limits.valueKinds", Rows.laid_examiner_limits_valueKinds)] := by kernel_rfl
theorem kinds_cells {W : World} (hL : laidMetH Tryz.prog theLaid W) : ∃ (cs : Array Value) (fuel : Nat) (p : List MemPlace), (∀ k, W.cell? ⟨0, k, none⟩ = cs.toList[k]?) ∧ DataW.trod (fun _ => ()) Tryz.prog W 0 (fun _ => true) false fuel 93 cs.toList = some (Rows.laid_examiner_limits_valueKinds, p) := by
  have h := laidMetH.filter (fun x => x.1 == "examiner/limits.valueKinds") hL
  rw [laid_kinds, MakeChecks.laidMetH_plain _ _ _ (by kernel_rfl)] at h
  obtain ⟨ps, hv, -⟩ := h
  obtain ⟨g', t, cs, fuel, p, q, h1, h2, h3, h4, -⟩ := hv
  obtain rfl : 0 = g' := Option.some.inj ((show Tryz.prog.globalNamed "examiner/limits.valueKinds" = some 0 by kernel_rfl).symm.trans h1)
  obtain rfl : 93 = t := Option.some.inj ((show (Tryz.prog.globals[0]?).map (·.type) = some 93 by kernel_rfl).symm.trans h2)
  exact ⟨cs, fuel, p, fun k => by rw [var?_cell h1 h3 k, Array.getElem?_toList], h4⟩
theorem ce_parts : Tryz.prog.cellsOf 178 = 5 := by kernel_rfl
theorem ce_kinds : Tryz.prog.cellsOf 172 = 10 := by kernel_rfl
theorem ce_field : Tryz.prog.cellsOf 170 = 5 := by kernel_rfl
theorem ce_bool : Tryz.prog.cellsOf 4 = 1 := by kernel_rfl
theorem ce_int : Tryz.prog.cellsOf 3 = 1 := by kernel_rfl
set_option maxRecDepth 100000 in
theorem partInt_of {W : World} (hL : laidMetH Tryz.prog theLaid W) : PartInt W := by
  obtain ⟨cs, fuel, p, hc, h4⟩ := parts_cells hL
  unfold Rows.laid_examiner_notation_partsOfValues at h4
  obtain ⟨m, q, h5⟩ := arr_step Tryz.underlying179 h4 (i := 2) rfl
  rw [ce_parts] at h5
  obtain ⟨m0, q0, e0⟩ := str_step Tryz.underlying178 h5 (i := 0) (ty := 4) (o := 0) rfl rfl rfl rfl
  have c0 := bool_leaf Tryz.underlying4 e0
  rw [ce_bool] at c0
  obtain ⟨m1, q1, e1⟩ := str_step Tryz.underlying178 h5 (i := 1) (ty := 4) (o := 1) rfl rfl rfl rfl
  have c1 := bool_leaf Tryz.underlying4 e1
  rw [ce_bool] at c1
  obtain ⟨m2, q2, e2⟩ := str_step Tryz.underlying178 h5 (i := 2) (ty := 4) (o := 2) rfl rfl rfl rfl
  have c2 := bool_leaf Tryz.underlying4 e2
  rw [ce_bool] at c2
  obtain ⟨m3, q3, e3⟩ := str_step Tryz.underlying178 h5 (i := 3) (ty := 4) (o := 3) rfl rfl rfl rfl
  have c3 := bool_leaf Tryz.underlying4 e3
  rw [ce_bool] at c3
  obtain ⟨m4, q4, e4⟩ := str_step Tryz.underlying178 h5 (i := 4) (ty := 4) (o := 4) rfl rfl rfl rfl
  have c4 := bool_leaf Tryz.underlying4 e4
  rw [ce_bool] at c4
  exact ⟨(hc _).trans (at_one c0), (hc _).trans (at_one c1), (hc _).trans (at_one c2), (hc _).trans (at_one c3), (hc _).trans (at_one c4)⟩
set_option maxRecDepth 100000 in
theorem partTy_of {W : World} (hL : laidMetH Tryz.prog theLaid W) : PartTy W := by
  obtain ⟨cs, fuel, p, hc, h4⟩ := types_cells hL
  unfold Rows.laid_examiner_notation_typeParts at h4
  obtain ⟨m, q, h5⟩ := arr_step Tryz.underlying173 h4 (i := 2) rfl
  rw [ce_kinds] at h5
  obtain ⟨m0, q0, e0⟩ := str_step Tryz.underlying172 h5 (i := 0) (ty := 4) (o := 0) rfl rfl rfl rfl
  have c0 := bool_leaf Tryz.underlying4 e0
  rw [ce_bool] at c0
  obtain ⟨m1, q1, e1⟩ := str_step Tryz.underlying172 h5 (i := 1) (ty := 4) (o := 1) rfl rfl rfl rfl
  have c1 := bool_leaf Tryz.underlying4 e1
  rw [ce_bool] at c1
  obtain ⟨m2, q2, e2⟩ := str_step Tryz.underlying172 h5 (i := 2) (ty := 4) (o := 2) rfl rfl rfl rfl
  have c2 := bool_leaf Tryz.underlying4 e2
  rw [ce_bool] at c2
  obtain ⟨m3, q3, e3⟩ := str_step Tryz.underlying172 h5 (i := 3) (ty := 4) (o := 3) rfl rfl rfl rfl
  have c3 := bool_leaf Tryz.underlying4 e3
  rw [ce_bool] at c3
  obtain ⟨m4, q4, e4⟩ := str_step Tryz.underlying172 h5 (i := 4) (ty := 4) (o := 4) rfl rfl rfl rfl
  have c4 := bool_leaf Tryz.underlying4 e4
  rw [ce_bool] at c4
  obtain ⟨m5, q5, h6⟩ := str_step Tryz.underlying172 h5 (i := 5) (ty := 170) (o := 5) rfl rfl rfl rfl
  rw [ce_field] at h6
  obtain ⟨n0, r0, f0⟩ := str_step Tryz.underlying170 h6 (i := 0) (ty := 4) (o := 0) rfl rfl rfl rfl
  have d0 := bool_leaf Tryz.underlying4 f0
  rw [ce_bool] at d0
  obtain ⟨n1, r1, f1⟩ := str_step Tryz.underlying170 h6 (i := 1) (ty := 4) (o := 1) rfl rfl rfl rfl
  have d1 := bool_leaf Tryz.underlying4 f1
  rw [ce_bool] at d1
  obtain ⟨n2, r2, f2⟩ := str_step Tryz.underlying170 h6 (i := 2) (ty := 4) (o := 2) rfl rfl rfl rfl
  have d2 := bool_leaf Tryz.underlying4 f2
  rw [ce_bool] at d2
  obtain ⟨n3, r3, f3⟩ := str_step Tryz.underlying170 h6 (i := 3) (ty := 4) (o := 3) rfl rfl rfl rfl
  have d3 := bool_leaf Tryz.underlying4 f3
  rw [ce_bool] at d3
  obtain ⟨n4, r4, f4⟩ := str_step Tryz.underlying170 h6 (i := 4) (ty := 4) (o := 4) rfl rfl rfl rfl
  have d4 := bool_leaf Tryz.underlying4 f4
  rw [ce_bool] at d4
  intro j b hj
  rcases j with _ | _ | _ | _ | _ | _ | _ | _ | _ | _ | j
  · cases hj; exact (hc _).trans (at_one c0)
  · cases hj; exact (hc _).trans (at_one c1)
  · cases hj; exact (hc _).trans (at_one c2)
  · cases hj; exact (hc _).trans (at_one c3)
  · cases hj; exact (hc _).trans (at_one c4)
  · cases hj; exact (hc _).trans (at_two d0)
  · cases hj; exact (hc _).trans (at_two d1)
  · cases hj; exact (hc _).trans (at_two d2)
  · cases hj; exact (hc _).trans (at_two d3)
  · cases hj; exact (hc _).trans (at_two d4)
  · simp at hj
set_option maxRecDepth 100000 in
theorem partVal_of {W : World} (hL : laidMetH Tryz.prog theLaid W) : PartVal W := by
  obtain ⟨cs, fuel, p, hc, h4⟩ := kinds_cells hL
  unfold Rows.laid_examiner_limits_valueKinds at h4
  obtain ⟨m, q, h5⟩ := arr_step Tryz.underlying93 h4 (i := 2) rfl
  rw [ce_int] at h5
  obtain ⟨n, hcs, hx, -⟩ := DataW.trod_int Tryz.underlying3 h5
  injection hx with hx1
  injection hx1 with hx1
  injection hx1 with hx1 hx2
  subst hx2
  have := congrArg (·[0]?) hcs
  simp only [List.getElem?_take, List.getElem?_drop] at this
  simp at this
  exact (hc _).trans (by rw [Array.getElem?_toList]; exact this)
end Go.Proofs.YtgdedcdjfljcnaaGreatDoor
namespace Go.Proofs.YtgdedcdjfljcnaaGreatDoor
open Go.ChangeShapes Go.WideShapes Go.ChangeAt Go.RowKit

/-- The literals of a datum, as cells. -/
def valsOf : DataW Unit → List Value
  | .lit (.int k n) => [.int k n]
  | .lit (.bool b) => [.bool b]
  | .agg l => valsAll l
  | _ => []
  where valsAll : List (DataW Unit) → List Value
    | [] => []
    | d :: r => valsOf d ++ valsAll r
noncomputable def laidWorld (os : Os) : World :=
  let w0 := World.holding Tryz.prog os ⟨#[], #[], []⟩
  let put (h : Array Obj) (g : Nat) (cs : Array Value) : Array Obj := h.modify g fun
    | .cells _ t frozen => .cells cs t frozen
    | o => o
  let h1 := put w0.heap 5 (valsOf Rows.laid_unicode_utf8_acceptRanges).toArray
  let h2 := put h1 4 (valsOf Rows.laid_unicode_utf8_first).toArray
  let h3 := put h2 1 (valsOf Rows.laid_examiner_notation_typeParts).toArray
  let h4 := put h3 2 (valsOf Rows.laid_examiner_notation_partsOfValues).toArray
  let h5 := put h4 0 (valsOf Rows.laid_examiner_limits_valueKinds).toArray
  { w0 with heap := h5 }
theorem laid_met (os : Os) (args : Array Value) : laidMet Tryz.prog theLaid ((laidWorld os).forCall (fun _ _ => 0) ⟨#[], args, []⟩).memory :=
  laidMet_of_run3 12 (by kernel_rfl) (by kernel_rfl) (by kernel_rfl)

set_option maxRecDepth 100000 in
/-- A type handed by value is such a tree. -/
theorem open_typ {H : Type} {enc : TypeId × Value → H} {W : World} {base : Nat} {v : Value} {d : DataW H} {p : List MemPlace} (hv : Value.okWide Tryz.prog W .any base 28 v)
    (h : DataW.Trod enc Tryz.prog W 0 (fun _ => true) true 28 v d p) : ∃ (x : TyT) (cs : List Value), v = .agg cs.toArray ∧ RepTy W.heap.size W x cs := by
  obtain ⟨arr, rfl, hsz⟩ := okWide_struct Tryz.underlying28 hv
  obtain ⟨fuel, hf⟩ := h
  obtain ⟨x, hx⟩ := open_type fuel arr.toList (d, p) (by simpa [Value.cells] using hf)
  exact ⟨x, arr.toList, by simp, hx⟩
theorem laidOut : laidOutB Tryz.prog = true := by kernel_rfl
theorem law_post2 {H : Type} {enc : TypeId × Value → H} {f : Func} {s : ChangeSpec} {W W' : World} {args : Array Value} {ds : List (DataW H)} {before : List MemPlace}
    (hf : f.resultTypes = #[4]) (hs : s.fn H ds = { results := [.lit (.bool true)], args := ds }) (hv : s.vars = [])
    (hW : DataW.Whole enc Tryz.prog f.params.toList s.vars false W args.toList ds [] before)
    (hagain : DataW.TrodAll enc Tryz.prog W' 0 (fun b => decide (b < W.heap.size)) true f.params.toList args.toList ds before)
    (hb : Below W.heap.size W W') : s.post enc Tryz.prog f false true false false W args (.bool true) W' := by
  refine ⟨ds, [], before, [], before, [], hW, ?_, ?_, ?_, World.keptBut_mono (fun _ hp => ⟨hp, .inr (.inl hp)⟩) (hb.frame (· ∈ before)), fun h => by cases h⟩
  · rw [hf, List.append_nil, hs]
    exact trodAll_cons_mk (shut_bool Tryz.underlying4 _) trodAll_mk0
  · rw [List.append_nil, hs]
    exact hagain
  · rw [List.append_nil, hs, hv]
    exact rfl
end Go.Proofs.YtgdedcdjfljcnaaGreatDoor
