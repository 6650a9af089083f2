/- The contract on the first rule that is broken. -/
import Derived.Test.YtgdedcdjfljcnaaGreatDoorM02
import Derived.Laws.EntriesVeiled
namespace Go.Proofs.YtgdedcdjfljcnaaGreatDoor
open Go.RowKit

/-- A rule: its error, the function that is asked, what is bound to it, and what it answers. -/
structure Ru where
  err : Int
  fn : Nat
  bound : Value
  ans : Bool
def firstOf : List Ru → Int
  | [] => 0
  | r :: t => if r.ans = true then r.err else firstOf t
theorem firstOf_drop (rs : List Ru) (m : Nat) (h : ∀ r ∈ rs.take m, r.ans = false) : firstOf rs = firstOf (rs.drop m) := by
  induction m generalizing rs with
  | zero => rfl
  | succ m ih =>
    cases rs with
    | nil => rfl
    | cons r t =>
      have hr := h r (by simp)
      rw [firstOf, if_neg (by rw [hr]; decide), List.drop_succ_cons]
      exact ih t fun x hx => h x (by simp [hx])
set_option maxRecDepth 100000 in
theorem firstBroken_any (rs : List Ru) (g cap : Nat) (w : World) (hn : rs.length ≤ 100) (hg : g < w.heap.size)
    (hcells : ∀ j r, rs[j]? = some r → w.cell? ⟨g, j * 2, none⟩ = some (.int .i64 r.err) ∧ w.cell? ⟨g, j * 2 + 1, none⟩ = some (.func (Fn.func r.fn) #[r.bound] #[]))
    (hent : ∀ r ∈ rs, ∀ W : World, (callFunc r.fn #[r.bound]).run Tryz.prog W = .ok (.enter r.fn #[r.bound]) W)
    (hcalls : ∀ r ∈ rs, ∀ W, Fr w.heap.size w W → Calls Tryz.prog r.fn #[r.bound] W fun e W' => e = .returned (.bool r.ans) ∧ Fr W.heap.size W W') :
    Calls Tryz.prog 130 #[.slice (some ⟨g, 0, none⟩) rs.length cap] w fun e w' => e = .returned (.int .i64 (firstOf rs)) ∧ Fr w.heap.size w w' := by
  have Hcells := Lib.hid hcells; have Hcalls := Lib.hid hcalls; have Hent := Lib.hid hent
  clear hcells hcalls hent
  go_enter Tryz.func130, Tryz.ntmps130
  go_wp2_with fail
  go_loopw [7] (fun i wr => ∃ m : Nat, m ≤ rs.length ∧ i = .int .i64 m ∧ Hid (∀ r ∈ rs.take m, r.ans = false) ∧ Fr w.heap.size w wr) (fun i _ => rs.length - (intOf i).toNat)
  case atStart => exact ⟨0, by omega, by go_num, fun r h => by simp at h, Fr.self w⟩
  case round =>
    obtain ⟨m, hm, rfl, HT, hfm⟩ := hrel
    have hc := firstOf_drop rs m HT.out
    by_cases hml : m < rs.length
    · obtain ⟨r, hr⟩ : ∃ r, rs[m]? = some r := ⟨_, List.getElem?_eq_getElem hml⟩
      obtain ⟨c0, c1⟩ := Hcells.out m r hr
      have k0 : wr.cell? ⟨g, m * 2, none⟩ = some (.int .i64 r.err) := (hfm.cell (p := ⟨g, m * 2, none⟩) hg).trans c0
      have k1 : wr.cell? ⟨g, m * 2 + 1, none⟩ = some (.func (Fn.func r.fn) #[r.bound] #[]) := (hfm.cell (p := ⟨g, m * 2 + 1, none⟩) hg).trans c1
      have hmn : (0 : Int) ≤ m := by omega
      have hmm : (m : Int) < rs.length := by omega
      have hen := Hent.out r (List.mem_of_getElem? hr)
      have hca := Hcalls.out r (List.mem_of_getElem? hr) (wr.alloc (.cells #[.int .i64 r.err, .func (Fn.func r.fn) #[r.bound] #[]] 160)) (hfm.alloc _)
      have hrd : rs.drop m = r :: rs.drop (m + 1) := by rw [List.drop_eq_getElem_cons hml]; rw [List.getElem?_eq_getElem hml] at hr; injection hr with hr; rw [hr]
      rw [hrd, firstOf] at hc
      have htk : rs.take (m + 1) = rs.take m ++ [r] := by rw [List.take_add_one, hr]; rfl
      have Hc := Lib.hid hc; have Hca := Lib.hid hca; have Htk := Lib.hid htk
      clear c0 c1 hc hca hrd htk hr
      cases hans : r.ans with
      | true =>
        rw [hans] at Hca
        have hv : firstOf rs = r.err := by rw [Hc.out, if_pos hans]
        have Hv := Lib.hid hv; clear hv hans
        go_wp2_with fail
        refine Hca.out.mono ?_
        rintro e w2 ⟨rfl, hf2⟩
        have c2 : w2.cell? ⟨wr.heap.size, 0, none⟩ = some (.int .i64 r.err) := (hf2.cell (p := ⟨wr.heap.size, 0, none⟩) (by simp)).trans (cell_new wr _ _ 0)
        go_wp2_with fail
        go_ret
        exact ⟨by rw [Hv.out]; rfl, (hfm.alloc _).trans hf2⟩
      | false =>
        rw [hans] at Hca
        have hT2 : ∀ x ∈ rs.take (m + 1), x.ans = false := by
          intro x hx
          rw [Htk.out, List.mem_append, List.mem_singleton] at hx
          rcases hx with hx | rfl
          · exact HT.out x hx
          · exact hans
        have HT2 := Lib.hid hT2; clear hT2 hans
        go_wp2_with fail
        refine Hca.out.mono ?_
        rintro e w2 ⟨rfl, hf2⟩
        go_wp2_with fail
        go_roundw
        case rel => exact ⟨m + 1, by omega, by go_num, HT2, (hfm.alloc _).trans hf2⟩
        case measure => simp [intOf] <;> omega
    · rw [List.drop_eq_nil_of_le (by omega), firstOf] at hc
      have Hc := Lib.hid hc; clear hc
      go_wp2_with fail
      go_ret
      exact ⟨by rw [Hc.out]; rfl, hfm⟩
end Go.Proofs.YtgdedcdjfljcnaaGreatDoor
