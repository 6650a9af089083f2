/- The law of right tokens, walked. -/
import Derived.Test.YtknbmnckegonlaaGreatDoorRefR
namespace Go.Proofs.YtknbmnckegonlaaGreatDoor
open Go.RowKit

set_option maxRecDepth 100000 in
set_option maxHeartbeats 4000000 in
theorem lexisChecks_any (lang : Int) (t : Tok) (w : World) (hm : t.text.length ≤ 9223372036854775807) (hg : Hid (Glob w)) :
    Calls Tryz.prog 7 #[.int .i64 lang, .agg #[.int .i64 t.kind, .string ⟨t.text.toArray⟩, .int .i64 t.pos]] w fun e w' => e = .returned (.bool true) ∧ Fr w.heap.size w w' := by
  have hf := Fr.self w
  have hba : (ByteArray.mk t.text.toArray).size = t.text.length := by rw [ba_size, ba_mk]
  have Haw := Lib.hid (fun w hg => awake_any w hg)
  obtain ⟨tk, tt, tp⟩ := t
  simp only at hm hba ⊢
  have Hba := Lib.hid hba
  have Haw1 := Lib.hid (Haw.out _ (Glob.fr hg (hf.alloc (Obj.cells #[.int .i64 tk, .string ⟨tt.toArray⟩, .int .i64 tp] 43))))
  clear hba Haw
  by_cases h300 : 300 < tt.length
  · have hl : decide ((300 : Int) < ((ByteArray.mk tt.toArray).size : Int)) = true := by rw [Hba.out]; simp; omega
    go_enter Tryz.func7, Tryz.ntmps7
    go_wp2_with fail
    refine Haw1.out.mono ?_
    rintro e w1 ⟨rfl, hf1⟩
    have hb1 := (hf1.2.block w.heap.size (by simp)).trans (heap_alloc_new w _)
    obtain ⟨b0, b1, b2⟩ := box_cells hb1
    go_wp2_with fail
    go_ret
    exact ⟨rfl, (hf.alloc _).trans hf1⟩
  · have hl : decide ((300 : Int) < ((ByteArray.mk tt.toArray).size : Int)) = false := by rw [Hba.out]; simp; omega
    have Hct := Lib.hid (fun w hg => checkToken_any lang ⟨tk, tt, tp⟩ w (by simp; omega) hg)
    by_cases hlang : lang = 0 ∨ lang = 1
    · have Hil : Hid (∀ w, Calls Tryz.prog 25 #[.int .i64 lang] w fun e w' => e = .returned (.bool true) ∧ w = w') := fun w => by have := isLang_any lang w; rw [decide_eq_true hlang] at this; exact this
      have Hte := Lib.hid (fun w => tokenErr_any lang hlang ⟨tk, tt, tp⟩ w (by simp; omega))
      go_enter Tryz.func7, Tryz.ntmps7
      go_wp2_with fail
      refine Haw1.out.mono ?_
      rintro e w1 ⟨rfl, hf1⟩
      have hb1 := (hf1.2.block w.heap.size (by simp)).trans (heap_alloc_new w _)
      obtain ⟨b0, b1, b2⟩ := box_cells hb1
      have hfa : Fr w.heap.size w w1 := (hf.alloc _).trans hf1
      go_wp2_with fail
      refine (Hct.out _ (Glob.fr hg hfa)).mono ?_
      rintro e w2 ⟨rfl, hf2⟩
      have hb2 := (hf2.2.block w.heap.size (block_lt hb1)).trans hb1
      obtain ⟨d0, d1, d2⟩ := box_cells hb2
      go_wp2_with (first | (go_at_call 25; refine (Hil.out _).mono ?_; rintro e w' ⟨rfl, rfl⟩))
      refine (Hte.out _).mono ?_
      rintro e w3 ⟨rfl, hf3⟩
      go_wp2_with fail
      go_ret
      exact ⟨rfl, (hfa.trans hf2).trans hf3⟩
    · have Hil : Hid (∀ w, Calls Tryz.prog 25 #[.int .i64 lang] w fun e w' => e = .returned (.bool false) ∧ w = w') := fun w => by have := isLang_any lang w; rw [decide_eq_false hlang] at this; exact this
      have hv : tokErr lang ⟨tk, tt, tp⟩ = 4 := by unfold tokErr; rw [if_pos hlang]
      have Hct2 : Hid (∀ w, Hid (Glob w) → Calls Tryz.prog 30 #[.int .i64 lang, .agg #[.int .i64 tk, .string ⟨tt.toArray⟩, .int .i64 tp]] w fun e w' => e = .returned (.int .i64 4) ∧ Fr w.heap.size w w') := fun w hg => by have := Hct.out w hg; rw [hv] at this; exact this
      clear hv hlang Hct
      go_enter Tryz.func7, Tryz.ntmps7
      go_wp2_with fail
      refine Haw1.out.mono ?_
      rintro e w1 ⟨rfl, hf1⟩
      have hb1 := (hf1.2.block w.heap.size (by simp)).trans (heap_alloc_new w _)
      obtain ⟨b0, b1, b2⟩ := box_cells hb1
      have hfa : Fr w.heap.size w w1 := (hf.alloc _).trans hf1
      go_wp2_with fail
      refine (Hct2.out _ (Glob.fr hg hfa)).mono ?_
      rintro e w2 ⟨rfl, hf2⟩
      go_wp2_with (first | (go_at_call 25; refine (Hil.out _).mono ?_; rintro e w' ⟨rfl, rfl⟩))
      go_ret
      exact ⟨rfl, hfa.trans hf2⟩
end Go.Proofs.YtknbmnckegonlaaGreatDoor
