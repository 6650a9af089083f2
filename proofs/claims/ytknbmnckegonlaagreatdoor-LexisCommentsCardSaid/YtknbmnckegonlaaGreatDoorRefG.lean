/- Contracts on the reference: whether a list of strings has a string. -/
import Derived.Test.YtknbmnckegonlaaGreatDoorRefA
namespace Go.Proofs.YtknbmnckegonlaaGreatDoor
open Go.RowKit

/-- A list of strings that lies in a block. -/
def Strs (w : World) (g : Nat) (ws : List (List UInt8)) : Prop := ∀ (j : Nat) (x : List UInt8), ws[j]? = some x → w.cell? ⟨g, j, none⟩ = some (.string ⟨x.toArray⟩)
def idxOf (x : List UInt8) : List (List UInt8) → Int
  | [] => -1
  | y :: t => if y = x then 0 else if idxOf x t = -1 then -1 else idxOf x t + 1
theorem idxOf_ge (x : List UInt8) : ∀ l, -1 ≤ idxOf x l ∧ idxOf x l < l.length
  | [] => by simp [idxOf]
  | y :: t => by
    have := idxOf_ge x t
    rw [idxOf]
    split
    · simp <;> omega
    · split <;> simp <;> omega
theorem idxOf_mem (x : List UInt8) : ∀ l, (idxOf x l ≠ -1) ↔ x ∈ l
  | [] => by simp [idxOf]
  | y :: t => by
    have h1 := idxOf_mem x t
    have h2 := idxOf_ge x t
    rw [idxOf]
    by_cases h : y = x
    · simp [h]
    · rw [if_neg h]
      by_cases h3 : idxOf x t = -1
      · rw [if_pos h3]; rw [h3] at h1
        simp at h1 ⊢
        exact ⟨fun e => h e.symm, h1⟩
      · rw [if_neg h3]
        have : idxOf x t + 1 ≠ -1 := by omega
        simp only [ne_eq, this, not_false_eq_true, true_iff]
        exact List.mem_cons_of_mem _ (h1.1 h3)
theorem rIndex_any (ws : List (List UInt8)) (g cap : Nat) (s : ByteArray) (l : List UInt8) (hs : s.data.toList = l) (w : World) (hst : Strs w g ws) (hlen : ws.length ≤ 10000) :
    Calls Tryz.prog 82 #[.slice (some ⟨g, 0, none⟩) ws.length cap, .string s] w fun e w' => e = .returned (.int .i64 (idxOf l ws)) ∧ w = w' := by
  have Hst := Lib.hid hst
  have Hs := Lib.hid hs; clear hs hst
  go_enter Tryz.func82, Tryz.ntmps82
  go_wp2_with fail
  go_loop [5] (fun i => ∃ k : Nat, k ≤ ws.length ∧ i = .int .i64 k ∧ Hid (idxOf l ws = if idxOf l (ws.drop k) = -1 then -1 else idxOf l (ws.drop k) + k)) (fun i => ws.length - (intOf i).toNat)
  case atStart => exact ⟨0, by omega, rfl, by unfold Hid; simp⟩
  case round =>
    obtain ⟨k, hk, rfl, HR⟩ := hrel
    rcases hd : ws.drop k with _ | ⟨x, t⟩
    · have hge : ws.length ≤ k := List.drop_eq_nil_iff.1 hd
      have Hr : Hid (idxOf l ws = -1) := by unfold Hid; rw [HR.out, hd]; rfl
      clear hd
      go_wp2_with fail
      go_ret
      exact ⟨by rw [Hr.out]; rfl, rfl⟩
    · have hlt : k < ws.length := by
        rcases Nat.lt_or_ge k ws.length with h | h
        · exact h
        · rw [List.drop_eq_nil_of_le h] at hd; cases hd
      have h1 := List.drop_eq_getElem_cons hlt
      rw [hd] at h1
      injection h1 with h2 h3
      have hcell : w.cell? ⟨g, k, none⟩ = some (.string ⟨x.toArray⟩) := Hst.out k x (by rw [List.getElem?_eq_getElem hlt, h2])
      have hbx : (ByteArray.mk x.toArray).toList = x := by rw [ByteArray.toList_eq]
      have hb : (x == s.toList) = decide (x = l) := by
        rw [ByteArray.toList_eq, Hs.out, Bool.eq_iff_iff]; simp
      have hge := idxOf_ge l t
      by_cases he : x = l
      · rw [decide_eq_true he] at hb
        have Hr : Hid (idxOf l ws = k) := by unfold Hid; rw [HR.out, hd, idxOf, if_pos he]; simp
        clear hd h2 h3 he hbx
        go_wp2_with fail
        go_ret
        exact ⟨by rw [Hr.out]; rfl, rfl⟩
      · rw [decide_eq_false he] at hb
        have Hn : Hid (idxOf l ws = if idxOf l (ws.drop (k + 1)) = -1 then -1 else idxOf l (ws.drop (k + 1)) + (k + 1 : Nat)) := by
          unfold Hid; rw [HR.out, hd, idxOf, if_neg he, ← h3]
          by_cases h4 : idxOf l t = -1
          · simp [h4]
          · rw [if_neg h4, if_neg h4, if_neg (by omega)]; omega
        clear hd h2 h3 he hbx hge
        go_wp2_with fail
        go_round
        case rel => exact ⟨k + 1, by omega, by go_num, Hn⟩
        case measure => simp [intOf] <;> omega
theorem hasText_any (ws : List (List UInt8)) (g cap : Nat) (s : ByteArray) (l : List UInt8) (hs : s.data.toList = l) (w : World) (hst : Strs w g ws) (hlen : ws.length ≤ 10000) :
    Calls Tryz.prog 56 #[.slice (some ⟨g, 0, none⟩) ws.length cap, .string s] w fun e w' => e = .returned (.bool (decide (l ∈ ws))) ∧ w = w' := by
  have Hi := Lib.hid (rIndex_any ws g cap s l hs w hst hlen)
  have hv : decide (l ∈ ws) = (idxOf l ws != -1) := by
    rw [Bool.eq_iff_iff, decide_eq_true_eq, bne_iff_ne]; exact (idxOf_mem l ws).symm
  have Hv := Lib.hid hv
  clear hs hst hv
  go_enter Tryz.func56, Tryz.ntmps56
  go_wp2_with (go_at_call 82; refine (Hi.out).mono ?_; rintro e w' ⟨rfl, rfl⟩)
  go_ret
  exact ⟨ret_bool Hv.out.symm, rfl⟩
end Go.Proofs.YtknbmnckegonlaaGreatDoor
