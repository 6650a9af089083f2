/- The contract on how many tokens a law takes. -/
import Derived.Test.YtknbmnckegonlaaGreatDoorJoin
namespace Go.Proofs.YtknbmnckegonlaaGreatDoor
open Go.RowKit

def manyLen (n : Nat) : Bool := decide (60 < n ∧ n ≤ 1500 ∨ 1505 < n)
def longTok (k : Nat) (t : Tok) : Bool := decide (300 < t.text.length ∨ 60 < k ∧ 3 < t.text.length)
/-- No token from a place on is too long. -/
def fewFrom : Nat → List Tok → Bool
  | _, [] => true
  | k, t :: r => if longTok k t = true then false else fewFrom (k + 1) r
def fewB (ts : List Tok) : Bool := if manyLen ts.length = true then false else fewFrom 0 ts
set_option maxRecDepth 100000 in
set_option maxHeartbeats 2000000 in
theorem few_any (v : Value) (ts : List Tok) (w : World) (hrow : TokRow w w.heap.size v ts) (hln : ts.length ≤ 9223372036854775807) (htl : ∀ t ∈ ts, t.text.length ≤ 9223372036854775807) :
    Calls Tryz.prog 32 #[v] w fun e w' => e = .returned (.bool (fewB ts)) ∧ w = w' := by
  obtain ⟨A, cap, rfl, hA⟩ := hrow
  have hm : manyLen ts.length = decide (60 < ts.length ∧ ts.length ≤ 1500 ∨ 1505 < ts.length) := rfl
  by_cases hmany : 60 < ts.length ∧ ts.length ≤ 1500 ∨ 1505 < ts.length
  · have hv : fewB ts = false := by unfold fewB; rw [hm, decide_eq_true hmany, if_pos rfl]
    have Hv := Lib.hid hv
    clear hv hm hA htl
    rcases hmany with ⟨h1, h2⟩ | h1
    all_goals
      go_enter Tryz.func32, Tryz.ntmps32
      go_wp2_with fail
      all_goals first | (exfalso; omega) | skip
      all_goals go_ret
      all_goals exact ⟨by rw [Hv.out]; rfl, rfl⟩
  · have hv : fewB ts = fewFrom 0 ts := by unfold fewB; rw [hm, decide_eq_false hmany]; rfl
    have Hv := Lib.hid hv
    have HA := Lib.hid hA
    have Htl := Lib.hid htl
    have h1505 : ts.length ≤ 1505 := by omega
    have h60 : 60 < ts.length → 1500 < ts.length := by omega
    clear hv hm hA htl hmany
    go_enter Tryz.func32, Tryz.ntmps32
    rcases Nat.lt_or_ge 60 ts.length with h6 | h6
    all_goals
      first | (have h15 := h60 h6) | skip
      clear h60
      go_wp2_with fail
      go_loop [3] (fun i => ∃ k : Nat, k ≤ ts.length ∧ i = .int .i64 k ∧ Hid (fewFrom 0 ts = fewFrom k (ts.drop k))) (fun i => ts.length - (intOf i).toNat)
      case atStart => exact ⟨0, by omega, rfl, rfl⟩
      case round =>
        obtain ⟨k, hk, rfl, HR⟩ := hrel
        rcases hd : ts.drop k with _ | ⟨⟨tk, tt, tp⟩, r⟩
        · have hge : ts.length ≤ k := List.drop_eq_nil_iff.1 hd
          have Hr : Hid (fewB ts = true) := by unfold Hid; rw [Hv.out, HR.out, hd]; rfl
          clear hd
          go_wp2_with fail
          go_ret
          exact ⟨by rw [Hr.out]; rfl, rfl⟩
        · have hlt : k < ts.length := by
            rcases Nat.lt_or_ge k ts.length with h | h
            · exact h
            · rw [List.drop_eq_nil_of_le h] at hd; cases hd
          have h1 := List.drop_eq_getElem_cons hlt
          rw [hd] at h1
          injection h1 with h2 h3
          have ht : ts[k]? = some ⟨tk, tt, tp⟩ := by rw [List.getElem?_eq_getElem hlt, h2]
          obtain ⟨g, o, rfl, hgl, hc⟩ := HA.out.resolve_left (fun h => by rw [h] at hlt; simp at hlt)
          have g1 : w.cell? ⟨g, o + k * 3 + 1, none⟩ = some (.string ⟨tt.toArray⟩) := hc _ _ (tokCells_get ts k _ ht).2.1
          have hz : (ByteArray.mk tt.toArray).size = tt.length := by rw [ba_size]
          have hzb : tt.length ≤ 9223372036854775807 := Htl.out ⟨tk, tt, tp⟩ (List.mem_of_getElem? ht)
          have hlong : longTok k ⟨tk, tt, tp⟩ = decide (300 < tt.length ∨ 60 < k ∧ 3 < tt.length) := rfl
          by_cases hl : 300 < tt.length ∨ 60 < k ∧ 3 < tt.length
          · have Hr : Hid (fewB ts = false) := by unfold Hid; rw [Hv.out, HR.out, hd, fewFrom, hlong, decide_eq_true hl, if_pos rfl]
            clear hd ht hlong hc h2 h3 HA
            rcases hl with hl | ⟨hl, hl2⟩
            all_goals
              go_wp2_with fail
              all_goals first | (exfalso; omega) | skip
              all_goals go_ret
              all_goals exact ⟨by rw [Hr.out]; rfl, rfl⟩
          · have Hn : Hid (fewFrom 0 ts = fewFrom (k + 1) (ts.drop (k + 1))) := by unfold Hid; rw [HR.out, hd, fewFrom, hlong, decide_eq_false hl, if_neg (by simp), ← h3]
            clear hd ht hlong hc h2 h3 HA
            go_wp2_with fail
            all_goals first | (exfalso; omega) | skip
            all_goals go_round
            all_goals first | exact ⟨k + 1, by omega, by go_num, Hn⟩ | (simp [intOf] <;> omega)
end Go.Proofs.YtknbmnckegonlaaGreatDoor
