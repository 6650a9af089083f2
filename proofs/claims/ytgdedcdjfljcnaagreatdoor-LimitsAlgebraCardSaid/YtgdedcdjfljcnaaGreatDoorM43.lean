/- LimitsAlgebra's premises, once the reference finds no error: a flat type whose constraint is a tree of whole numbers. Err and IsMarked at a tree of types: LimitsAlgebra's premises. -/
import Derived.Test.YtgdedcdjfljcnaaGreatDoorM32
import Derived.Test.YtgdedcdjfljcnaaGreatDoorM36
import Derived.Test.YtgdedcdjfljcnaaGreatDoorM42
import Derived.Test.YtgdedcdjfljcnaaGreatDoorM37
import Derived.Test.YtgdedcdjfljcnaaGreatDoorM10
namespace Go.Proofs.YtgdedcdjfljcnaaGreatDoor
open Go.RowKit

theorem tiny_mk {k : Int} {name : List UInt8} {tags : List TG} {fds : List FD} {fts : List TyT} {opn : Bool} {root : Int} {of : List TyT} {lims : List LN} (h : tinyB (.mk k name tags fds fts opn root of lims) = true) : (∀ x ∈ lims, x.text.length ≤ 500 ∧ x.args.length ≤ 5) ∧ lims.length ≤ 40 := by
  unfold tinyB at h
  rw [Bool.and_eq_true] at h
  have h2 := h.2
  rw [narrowT, Bool.and_eq_true, Bool.and_eq_true] at h2
  refine ⟨fun x hx => ?_, (of_decide_eq_true h2.1).2.2.2.2⟩
  have := List.all_eq_true.mp h2.2.1 x hx
  unfold nodeSlim at this
  rw [Bool.and_eq_true] at this
  exact ⟨of_decide_eq_true this.1, of_decide_eq_true this.2⟩
theorem alg_good {w : World} {name : List UInt8} {tags : List TG} {fds : List FD} {fts : List TyT} {opn : Bool} {root : Int} {of : List TyT} {lims : List LN} {cs : List Value} (hrep : RepTy w.heap.size w (.mk 2 name tags fds fts opn root of lims) cs) (hg : GoodI name tags fds opn root of.length lims) (hne : lims ≠ []) (h9 : lims.length ≤ 9) (hm : ∀ x, lims[lims.length - 1]? = some x → x.kind ≠ 7) :
    ∃ (T : CT) (A1 : Option Addr) (c1 : Nat) (A2 : Option Addr) (c2 : Nat) (A3 : Option Addr) (c3 : Nat) (b off c4 : Nat), cs = [.int .i64 2, .string ⟨#[]⟩, .slice A1 tags.length c1, .slice A2 0 c2, .bool false, .int .i64 0, .slice A3 0 c3, .slice (some ⟨b, off, none⟩) lims.length c4] ∧
      GT w.heap.size w tags A1 b off lims T ∧ (A1 = none → tags.length = 0 ∧ c1 = 0) ∧ tags.length ≤ 3 ∧ ∀ x ∈ lims, NodeOk x := by
  obtain ⟨⟨⟨rfl, rfl, rfl, rfl, h5⟩, hO⟩, hq⟩ := hg
  cases hrep with
  | mk k name tags fds fts opn root of lims A1 c1 A2 c2 A3 c3 A4 c4 CF CT' CO CL h1 h2 h3 h4 hft hk hroot hname hT hTo hF hFd hFt hO' hOt hL hLn =>
    obtain ⟨T, hTg, hTe⟩ := good_tree hne hO.2 hq hm
    have hla := lim_of hL hLn
    have hpos : 0 < lims.length := Nat.pos_of_ne_zero (fun e => hne (List.eq_nil_of_length_eq_zero e))
    obtain ⟨b, off, rfl, hbB⟩ := hla.addr (List.getElem?_eq_getElem hpos)
    refine ⟨T, A1, c1, A2, c2, A3, c3, b, off, c4, by rw [h5]; rfl, ⟨tag_of hT, hO.1, hla, hTe, hTg, ?_⟩, fun e => ⟨?_, h1.1 e⟩, hO.1.1, fun x hx => ?_⟩
    · have := T.flat_length 0
      rw [← hTe] at this
      omega
    · have := h1.1 e
      have := h1.2.1
      omega
    · obtain ⟨i, hi⟩ := List.getElem?_of_mem hx
      obtain ⟨A, ca, -, -, -, hn, -⟩ := hLn i x hi
      exact hn
end Go.Proofs.YtgdedcdjfljcnaaGreatDoor
namespace Go.Proofs.YtgdedcdjfljcnaaGreatDoor
open Go.RowKit

/-- No error; no marker at the end. -/
def AlgE : TyT → Prop
  | .mk k name tags fds _ opn root of lims => ((k = 2 ∧ 1 ≤ lims.length ∧ lims.length ≤ 9) ∧ ∀ z ∈ lims, z.args.length ≤ 1000) ∧ GoodI name tags fds opn root of.length lims
def AlgM : TyT → Prop
  | .mk _ _ _ _ _ _ _ _ lims => ∀ x, lims[lims.length - 1]? = some x → x.kind ≠ 7
theorem err_at {x : TyT} {W : World} {fk : Int} {fs : ByteArray} {P1 P2 P3 P4 : Option Addr} {n1 e1 n2 e2 n3 e3 n4 e4 : Nat} {fo : Bool} {fr : Int} (hrep : RepTy W.heap.size W x [.int .i64 fk, .string fs, .slice P1 n1 e1, .slice P2 n2 e2, .bool fo, .int .i64 fr, .slice P3 n3 e3, .slice P4 n4 e4]) (hk : fk = 2) (hl : 1 ≤ n4 ∧ n4 ≤ 9) (ht : tinyB x = true) :
    Calls Tryz.prog 7 #[.agg #[.int .i64 fk, .string fs, .slice P1 n1 e1, .slice P2 n2 e2, .bool fo, .int .i64 fr, .slice P3 n3 e3, .slice P4 n4 e4]] W fun e w' => TErr (AlgE x) e ∧ Fr W.heap.size W w' := by
  have hrep' := hrep
  cases hrep with
  | mk k name tags fds fts opn root of lims A1 c1 A2 c2 A3 c3 A4 c4 CF CT' CO CL h1 h2 h3 h4 hft hk' hroot hname hT hTo hF hFd hFt hO' hOt hL hLn =>
    subst hk
    have ht' := tiny_mk ht
    refine (rErr hrep' (fun e => by rw [e] at hl; simp at hl) (fun y hy => Nat.le_trans (ht'.1 y hy).2 (by omega)) (fun y hy => Nat.le_trans (ht'.1 y hy).1 (by omega))).mono ?_
    rintro e w' ⟨⟨c, rfl, hc⟩, hf⟩
    exact ⟨⟨c, rfl, fun h0 => ⟨⟨⟨rfl, hl⟩, fun y hy => Nat.le_trans (ht'.1 y hy).2 (by omega)⟩, hc h0⟩⟩, hf⟩
theorem mark_at {x : TyT} {W : World} {fk : Int} {fs : ByteArray} {P1 P2 P3 P4 : Option Addr} {n1 e1 n2 e2 n3 e3 n4 e4 : Nat} {fo : Bool} {fr : Int} (hrep : RepTy W.heap.size W x [.int .i64 fk, .string fs, .slice P1 n1 e1, .slice P2 n2 e2, .bool fo, .int .i64 fr, .slice P3 n3 e3, .slice P4 n4 e4]) (hl : 1 ≤ n4 ∧ n4 ≤ 9) :
    Calls Tryz.prog 8 #[.slice P4 n4 e4] W fun e w' => (∃ b, e = .returned (.bool b) ∧ Hid (b = false → AlgM x)) ∧ W = w' := by
  cases hrep with
  | mk k name tags fds fts opn root of lims A1 c1 A2 c2 A3 c3 A4 c4 CF CT' CO CL h1 h2 h3 h4 hft hk' hroot hname hT hTo hF hFd hFt hO' hOt hL hLn =>
    have hi : lims.length - 1 < lims.length := by omega
    refine (rIsMarked lims lims[lims.length - 1] P4 e4 W (lim_of hL hLn) (List.getElem?_eq_getElem hi) (by omega)).mono ?_
    rintro e w' ⟨rfl, hw⟩
    exact ⟨⟨_, rfl, Lib.hid fun hb y hy => by
      rw [List.getElem?_eq_getElem hi] at hy
      cases hy
      intro e7
      rw [e7] at hb
      cases hb⟩, hw⟩
end Go.Proofs.YtgdedcdjfljcnaaGreatDoor
