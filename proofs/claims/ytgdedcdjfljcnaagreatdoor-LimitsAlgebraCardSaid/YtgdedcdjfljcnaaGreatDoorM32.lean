/- The reference's Check and Err of a type of whole numbers. -/
import Derived.Test.YtgdedcdjfljcnaaGreatDoorM26
import Derived.Test.YtgdedcdjfljcnaaGreatDoorM31
namespace Go.Proofs.YtgdedcdjfljcnaaGreatDoor
open Go.RowKit

/-- What is known of a type of whole numbers that the reference finds no error in. -/
def GoodI (name : List UInt8) (tags : List TG) (fds : List FD) (opn : Bool) (root : Int) (ofn : Nat) (lims : List LN) : Prop := (PlainI name fds opn root ofn ∧ OwnI tags lims) ∧ NodesQ lims lims.length
set_option maxRecDepth 100000 in
set_option maxHeartbeats 1000000 in
theorem rCheck {w : World} {name : List UInt8} {tags : List TG} {fds : List FD} {fts : List TyT} {opn : Bool} {root : Int} {of : List TyT} {lims : List LN} {cs : List Value} (hrep : RepTy w.heap.size w (.mk 2 name tags fds fts opn root of lims) cs) (hne : lims ≠ []) (ha : ∀ x ∈ lims, x.args.length ≤ 100000) (htx : ∀ x ∈ lims, x.text.length ≤ 1000) :
    Calls Tryz.prog 23 #[.agg cs.toArray] w fun e w' => OErr (GoodI name tags fds opn root of.length lims) e ∧ Fr w.heap.size w w' := by
  have Ht := Lib.hid (fun (W : World) (hW : Fr w.heap.size w W) => rTypeErr (RepTy.mono hW.2.size (RepTy.keep hW.2 hrep)) ha)
  have hf := Fr.self w
  cases hrep with
  | mk k name tags fds fts opn root of lims A1 c1 A2 c2 A3 c3 A4 c4 CF CT CO CL h1 h2 h3 h4 hft hk hroot hname hT hTo hF hFd hFt hO hOt hL hLn =>
    have hla := lim_of hL hLn
    have Hw : Hid (∀ W : World, Fr w.heap.size w W → (PlainI name fds opn root of.length ∧ OwnI tags lims) → Calls Tryz.prog 42 #[.agg #[.int .i64 2, .string ⟨name.toArray⟩, .slice A1 tags.length c1, .slice A2 fds.length c2, .bool opn, .int .i64 root, .slice A3 of.length c3, .slice A4 lims.length c4]] W fun e w' => OErr (GoodI name tags fds opn root of.length lims) e ∧ Fr W.heap.size W w') := Lib.hid fun W hW hP => by
      have hP' := hP
      obtain ⟨⟨rfl, rfl, rfl, rfl, h5⟩, hO⟩ := hP
      rw [h5] at *
      refine (rOwnErr lims A1 A2 A3 A4 tags.length c1 c2 c3 c4 W (hla.keep hW.2) hW.2.size hO.2 hne ha htx).mono ?_
      rintro e w' ⟨⟨i, c, rfl, hc⟩, hf'⟩
      exact ⟨⟨i, c, rfl, fun h0 => ⟨hP', hc h0⟩⟩, hf'⟩
    clear hla hT hTo hF hFd hFt hO hOt hL hLn ha hname hroot hk hft htx hne h1 h2 h3 h4
    have hf1 := hf.alloc (.cells #[.int .i64 2, .string ⟨name.toArray⟩, .slice A1 tags.length c1, .slice A2 fds.length c2, .bool opn, .int .i64 root, .slice A3 of.length c3, .slice A4 lims.length c4] 28)
    have Hc := Lib.hid (fun k => cell_new w #[.int .i64 2, .string ⟨name.toArray⟩, .slice A1 tags.length c1, .slice A2 fds.length c2, .bool opn, .int .i64 root, .slice A3 of.length c3, .slice A4 lims.length c4] 28 k)
    go_enter Tryz.func23, Tryz.ntmps23
    go_wp2_with fail
    refine (Ht.out _ hf1).mono ?_
    rintro e w1 ⟨⟨c, rfl, hc⟩, hf2⟩
    have hF := hf1.trans hf2
    have hk : ∀ k, w1.cell? ⟨w.heap.size, k, none⟩ = _ := fun k => (hf2.cell (p := ⟨w.heap.size, k, none⟩) (by simp)).trans (Hc.out k)
    have k0 := hk 0; have k1 := hk 1; have k2 := hk 2; have k3 := hk 3; have k4 := hk 4; have k5 := hk 5; have k6 := hk 6; have k7 := hk 7
    have Hcc := Lib.hid hc
    clear hk hf1 hf2 hc
    by_cases h0 : c = 0
    · subst h0
      have hP := Lib.hid (Hcc.out rfl)
      go_wp2_with fail
      refine (Hw.out _ hF hP.out).mono ?_
      rintro e w2 ⟨⟨i, c2', rfl, hc2⟩, hf3⟩
      have Hc2 := Lib.hid hc2
      clear hc2
      go_wp2_with fail
      go_ret2
      exact ⟨⟨i, c2', rfl, Hc2.out⟩, hF.trans hf3⟩
    · have hb : (c != 0) = true := by simpa using h0
      have H0 := Lib.hid h0
      clear h0
      go_wp2_with fail
      go_ret2
      exact ⟨OErr.no H0.out, hF⟩
set_option maxRecDepth 100000 in
theorem rErr {w : World} {name : List UInt8} {tags : List TG} {fds : List FD} {fts : List TyT} {opn : Bool} {root : Int} {of : List TyT} {lims : List LN} {cs : List Value} (hrep : RepTy w.heap.size w (.mk 2 name tags fds fts opn root of lims) cs) (hne : lims ≠ []) (ha : ∀ x ∈ lims, x.args.length ≤ 100000) (htx : ∀ x ∈ lims, x.text.length ≤ 1000) :
    Calls Tryz.prog 7 #[.agg cs.toArray] w fun e w' => TErr (GoodI name tags fds opn root of.length lims) e ∧ Fr w.heap.size w w' := by
  have hf := Fr.self w
  obtain ⟨fk, fs, P1, n1, e1, P2, n2, e2, fo, fr, P3, n3, e3, P4, n4, e4, rfl⟩ := hrep.shape
  have Ht := Lib.hid (fun (W : World) (hW : Fr w.heap.size w W) => rCheck (RepTy.mono hW.2.size (RepTy.keep hW.2 hrep)) hne ha htx)
  have hf1 := hf.alloc (.cells #[.int .i64 fk, .string fs, .slice P1 n1 e1, .slice P2 n2 e2, .bool fo, .int .i64 fr, .slice P3 n3 e3, .slice P4 n4 e4] 28)
  clear hrep hne ha htx
  go_enter Tryz.func7, Tryz.ntmps7
  go_wp2_with fail
  refine (Ht.out _ hf1).mono ?_
  rintro e w1 ⟨⟨i, c, rfl, hc⟩, hf2⟩
  have Hcc := Lib.hid hc
  clear hc
  have hF := hf1.trans hf2
  go_wp2_with fail
  go_ret
  exact ⟨⟨c, rfl, Hcc.out⟩, hF⟩
theorem nodeB_kind {x : LN} (h : nodeB x = true) : 0 ≤ x.kind ∧ x.kind ≤ 7 := by
  by_cases hk : 0 ≤ x.kind ∧ x.kind ≤ 7
  · exact hk
  · unfold nodeB at h
    rw [if_neg (show ¬ (x.kind = 0 ∨ x.kind = 1) by omega), if_neg (show ¬ (x.kind = 2 ∨ x.kind = 3) by omega), if_neg (show ¬ (x.kind = 4 ∨ x.kind = 5 ∨ x.kind = 6) by omega), if_neg (show ¬ x.kind = 7 by omega)] at h
    split at h <;> cases h
/-- A constraint without a marker in which OwnErr found nothing is a tree of whole numbers. -/
theorem good_tree {l : List LN} (hne : l ≠ []) (hl : isLimB l = true) (hq : NodesQ l l.length) (hm : ∀ x, l[l.length - 1]? = some x → x.kind ≠ 7) : ∃ T : CT, T.good ∧ l = T.flat 0 := by
  have hk23 : ∀ x ∈ l, x.kind ≠ 2 ∧ x.kind ≠ 3 := fun x hx => by
    obtain ⟨i, hi⟩ := List.getElem?_of_mem hx
    obtain ⟨v, hv, hs, -, -⟩ := hq i x (List.getElem?_eq_some_iff.mp hi).1 hi
    refine ⟨fun e => ?_, fun e => ?_⟩
    · rw [e] at hs
      rcases hv.1 with rfl | rfl | rfl | rfl <;> exact absurd hs (by decide)
    · rw [e] at hs
      rcases hv.1 with rfl | rfl | rfl | rfl <;> exact absurd hs (by decide)
  refine lim_tree hne (fun x hx => ?_) hl
  obtain ⟨i, hi⟩ := List.getElem?_of_mem hx
  have hil := (List.getElem?_eq_some_iff.mp hi).1
  obtain ⟨v, hv, hs, h0, h7⟩ := hq i x hil hi
  obtain ⟨-, hn, -⟩ := isLimB_args hl hi
  have hv01 := hv.2 hk23
  have hr := nodeB_kind hn
  by_cases e0 : x.kind = 0
  · rw [e0] at hs
    rcases hv01 with rfl | rfl
    · exact absurd hs (by decide)
    · exact .inl ⟨e0, h0 e0 rfl⟩
  · by_cases e1 : x.kind = 1
    · rw [e1] at hs
      rcases hv01 with rfl | rfl <;> exact absurd hs (by decide)
    · by_cases e7 : x.kind = 7
      · have := h7 e7
        exact absurd e7 (hm x (by rw [show l.length - 1 = i by omega]; exact hi))
      · have := hk23 x hx
        omega
end Go.Proofs.YtgdedcdjfljcnaaGreatDoor
