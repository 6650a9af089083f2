/- Contracts on the reference: languages, and whether two lists of tokens are the same but for their places. -/
import Derived.Test.YtknbmnckegonlaaGreatDoorJoin
namespace Go.Proofs.YtknbmnckegonlaaGreatDoor
open Go.RowKit

theorem isLang_any (lang : Int) (w : World) :
    Calls Tryz.prog 25 #[.int .i64 lang] w fun e w' => e = .returned (.bool (decide (lang = 0 ∨ lang = 1))) ∧ w = w' := by
  go_enter Tryz.func25, Tryz.ntmps25
  go_wp2
  all_goals (go_ret; exact ⟨ret_bool (by rw [Bool.eq_iff_iff]; simp <;> omega), rfl⟩)
/-- Are two lists of tokens the same, but for their places? -/
def sameToks (a b : List Tok) : Bool := decide (a.map kt = b.map kt)
set_option maxRecDepth 100000 in
set_option maxHeartbeats 2000000 in
theorem sameTokens_any (va vb : Value) (a b : List Tok) (w : World) (ha : TokRow w w.heap.size va a) (hb : TokRow w w.heap.size vb b) (hla : a.length ≤ 100000) (hlb : b.length ≤ 100000) :
    Calls Tryz.prog 20 #[va, vb] w fun e w' => e = .returned (.bool (sameToks a b)) ∧ Fr w.heap.size w w' := by
  obtain ⟨A, ca, rfl, ha⟩ := ha
  obtain ⟨B, cb, rfl, hb⟩ := hb
  by_cases hlen : a.length = b.length
  · by_cases hne : a = []
    · subst hne
      have hb0 : b = [] := List.eq_nil_of_length_eq_zero hlen.symm
      subst hb0
      have hf := Fr.self w
      clear ha hb
      go_enter Tryz.func20, Tryz.ntmps20
      go_wp2_with fail
      go_loop [5] (fun i => i = .int .i64 0) (fun _ => 0)
      case atStart => rfl
      case round =>
        subst hrel
        go_wp2_with fail
        go_ret
        exact ⟨rfl, hf⟩
    · have hneb : b ≠ [] := by
        intro h; rw [h] at hlen; exact hne (List.eq_nil_of_length_eq_zero hlen)
      obtain ⟨ga, oa, rfl, hga, hca⟩ := ha.resolve_left hne
      obtain ⟨gb, ob, rfl, hgb, hcb⟩ := hb.resolve_left hneb
      have hbl : ((a.length : Int) != (b.length : Int)) = false := by simp [hlen]
      have Hca := Lib.hid hca; have Hcb := Lib.hid hcb; have Hlen := Lib.hid hlen
      clear ha hb hca hcb hlen hne hneb
      go_enter Tryz.func20, Tryz.ntmps20
      go_wp2_with fail
      go_loopw [5] (fun i wr => ∃ k : Nat, k ≤ a.length ∧ i = .int .i64 k ∧ Fr w.heap.size w wr ∧ Hid ((a.take k).map kt = (b.take k).map kt)) (fun i _ => a.length - (intOf i).toNat)
      case atStart => exact ⟨0, by omega, rfl, Fr.self w, rfl⟩
      case round =>
        obtain ⟨k, hk, rfl, hfr, HR⟩ := hrel
        by_cases hkl : k < a.length
        · have hkw : k < b.length := by rw [← Hlen.out]; exact hkl
          obtain ⟨⟨tk, tt, tp⟩, ht⟩ : ∃ p, a[k]? = some p := ⟨_, List.getElem?_eq_getElem hkl⟩
          obtain ⟨⟨uk, ut, up⟩, hu⟩ : ∃ p, b[k]? = some p := ⟨_, List.getElem?_eq_getElem hkw⟩
          have htc := tokCells_get a k _ ht
          have huc := tokCells_get b k _ hu
          have g0 : wr.cell? ⟨ga, oa + k * 3, none⟩ = some (.int .i64 tk) := (hfr.cell (p := ⟨ga, _, none⟩) hga).trans (Hca.out _ _ htc.1)
          have g1 : wr.cell? ⟨ga, oa + k * 3 + 1, none⟩ = some (.string ⟨tt.toArray⟩) := (hfr.cell (p := ⟨ga, _, none⟩) hga).trans (Hca.out _ _ htc.2.1)
          have e0 : wr.cell? ⟨gb, ob + k * 3, none⟩ = some (.int .i64 uk) := (hfr.cell (p := ⟨gb, _, none⟩) hgb).trans (Hcb.out _ _ huc.1)
          have e1 : wr.cell? ⟨gb, ob + k * 3 + 1, none⟩ = some (.string ⟨ut.toArray⟩) := (hfr.cell (p := ⟨gb, _, none⟩) hgb).trans (Hcb.out _ _ huc.2.1)
          have hkn : (0 : Int) ≤ k := by omega
          have hkm : (k : Int) < b.length := by omega
          have hka : (k : Int) < a.length := by omega
          have Ht := Lib.hid ht; have Hu := Lib.hid hu
          clear ht hu htc huc
          by_cases hkk : tk = uk
          · have hb : (tk != uk) = false := by simp [hkk]
            have Hkk := Lib.hid hkk; clear hkk
            by_cases htt : tt = ut
            · have hb2 : (tt == ut) = true := by simp [htt]
              have Htt := Lib.hid htt; clear htt
              go_wp2_with fail
              go_quiet (fail)
              go_wp2_with fail
              go_roundw
              case rel => exact ⟨k + 1, by omega, by go_num, hfr.drewN _, map_take_step HR.out Ht.out Hu.out Hkk.out Htt.out⟩
              case measure => simp [intOf] <;> omega
            · have hb2 : (tt == ut) = false := by simp [htt]
              have hv : sameToks a b = false := decide_eq_false (map_ne Ht.out Hu.out (fun h => htt h.2))
              have Hv := Lib.hid hv; clear hv htt
              go_wp2_with fail
              go_quiet (fail)
              go_wp2_with fail
              go_ret
              exact ⟨by rw [Hv.out]; rfl, hfr.drewN _⟩
          · have hb : (tk != uk) = true := by simp [hkk]
            have hv : sameToks a b = false := decide_eq_false (map_ne Ht.out Hu.out (fun h => hkk h.1))
            have Hv := Lib.hid hv; clear hv hkk
            go_wp2_with fail
            go_quiet (fail)
            go_wp2_with fail
            go_ret
            exact ⟨by rw [Hv.out]; rfl, hfr.drewN _⟩
        · have hv : sameToks a b = true := by
            have h := HR.out
            rw [List.take_of_length_le (by omega), List.take_of_length_le (by rw [← Hlen.out]; omega)] at h
            exact decide_eq_true h
          have Hv := Lib.hid hv; clear hv
          go_wp2_with fail
          go_ret
          exact ⟨by rw [Hv.out]; rfl, hfr⟩
  · have hv : sameToks a b = false := decide_eq_false fun h => hlen (by have := congrArg List.length h; simpa using this)
    have hbl : ((a.length : Int) != (b.length : Int)) = true := by simp; omega
    have Hv := Lib.hid hv
    have hf := Fr.self w
    clear hv hlen ha hb
    go_enter Tryz.func20, Tryz.ntmps20
    go_wp2_with fail
    go_ret
    exact ⟨by rw [Hv.out]; rfl, hf⟩
end Go.Proofs.YtknbmnckegonlaaGreatDoor
