/- The contract on the example of the chapter: it is answered as the document says. -/
import Derived.Test.YtfmpcchlpplanaaGreatDoorJoin
import Derived.Test.YtfmpcchlpplanaaGreatDoorComs
namespace Go.Proofs.YtfmpcchlpplanaaGreatDoor
open Go.RowKit

def exL : List UInt8 := [84, 32, 58, 58, 61, 32, 73, 78, 84, 69, 71, 69, 82, 32, 40, 48, 46, 46, 55, 41, 32, 45, 45, 32, 115, 109, 97, 108, 108]
theorem ex_err : readErr 0 exL = (0, 0) := by kernel_rfl
theorem ex_toks : (outToks 0 exL).length = 8 := by kernel_rfl
theorem ex_coms : (outComs 0 exL).length = 1 := by kernel_rfl
theorem ex_join : joinRes 0 [⟨0, [97], 0⟩, ⟨6, [46], 0⟩, ⟨0, [98], 0⟩] = ([97, 46, 98], 0) := by kernel_rfl

theorem ex_tokens (w : World) (hg : Hid (Glob w)) :
    Calls Tryz.prog 13 #[.int .i64 0, .string ⟨exL.toArray⟩] w fun e w' => (∃ g cap, e = .returned (.tuple #[.slice (some ⟨g, 0, none⟩) 8 cap, .int .i64 0, .int .i64 0])) ∧ Fr w.heap.size w w' := by
  refine (tokensOf_any 0 ⟨exL.toArray⟩ exL rfl w (by unfold maxLen; decide) hg).mono ?_
  rintro e w' ⟨v, rfl, hf, hown⟩
  rw [ex_toks] at hown
  rcases own_cases hown with ⟨_, h, _⟩ | ⟨g, cap, rfl, _⟩
  · simp at h
  · exact ⟨⟨g, cap, by rw [ex_err]; rfl⟩, hf⟩
theorem ex_comments (w : World) (hg : Hid (Glob w)) :
    Calls Tryz.prog 15 #[.int .i64 0, .string ⟨exL.toArray⟩] w fun e w' => (∃ g cap, e = .returned (.tuple #[.slice (some ⟨g, 0, none⟩) 1 cap, .int .i64 0, .int .i64 0])) ∧ Fr w.heap.size w w' := by
  refine (commentsOf_any 0 ⟨exL.toArray⟩ exL rfl w (by unfold maxLen; decide) hg).mono ?_
  rintro e w' ⟨v, rfl, hf, hown⟩
  rw [ex_coms] at hown
  rcases own_cases hown with ⟨_, h, _⟩ | ⟨g, cap, rfl, _⟩
  · simp at h
  · exact ⟨⟨g, cap, by rw [ex_err]; rfl⟩, hf⟩
theorem example_any (w : World) : Calls Tryz.prog 14 #[] w fun e w' => e = .returned (.string ⟨exL.toArray⟩) ∧ w = w' := by
  go_enter Tryz.func14, Tryz.ntmps14
  go_wp2
  go_ret
  exact ⟨by kernel_rfl, rfl⟩
theorem ex_joined (W : World) (hg : Hid (Glob W)) :
    Calls Tryz.prog 16 #[.int .i64 0, .slice (some ⟨W.heap.size, 0, none⟩) 3 3] (W.alloc (Obj.cells #[.int .i64 0, .string ⟨#[97]⟩, .int .i64 0, .int .i64 6, .string ⟨#[46]⟩, .int .i64 0, .int .i64 0, .string ⟨#[98]⟩, .int .i64 0] 43)) fun e w' => e = .returned (.tuple #[.string ⟨#[97, 46, 98]⟩, .int .i64 0]) ∧ Fr W.heap.size W w' := by
  refine carryF ((joinedText_any 0 _ [⟨0, [97], 0⟩, ⟨6, [46], 0⟩, ⟨0, [98], 0⟩] _ ⟨_, 3, rfl, .inr ⟨W.heap.size, 0, rfl, by simp, ?_⟩⟩ (by simp) (by simp [maxLen]) (Glob.fr hg ((Fr.self W).alloc _))).mono ?_) ((Fr.self W).alloc _)
  · intro j u h
    have := cells_new W #[.int .i64 0, .string ⟨#[97]⟩, .int .i64 0, .int .i64 6, .string ⟨#[46]⟩, .int .i64 0, .int .i64 0, .string ⟨#[98]⟩, .int .i64 0] 43 j u h
    rw [add_at] at this
    rw [Nat.zero_add]; exact this
  · rintro e w' ⟨rfl, hf⟩
    exact ⟨by rw [ex_join], hf⟩

set_option maxRecDepth 100000 in
theorem awake_any (w : World) (hg : Hid (Glob w)) : Calls Tryz.prog 4 #[] w fun e w' => e = .returned (.bool true) ∧ Fr w.heap.size w w' := by
  have hf := Fr.self w
  go_enter Tryz.func4, Tryz.ntmps4
  go_wp2_with fail
  refine (example_any _).mono ?_
  rintro e w' ⟨rfl, rfl⟩
  go_wp2_with fail
  refine (ex_tokens _ hg).mono ?_
  rintro e w1 ⟨⟨g, cap, rfl⟩, hf1⟩
  go_wp2_with fail
  refine (example_any _).mono ?_
  rintro e w' ⟨rfl, rfl⟩
  go_wp2_with fail
  refine (ex_comments _ (Glob.fr hg hf1)).mono ?_
  rintro e w2 ⟨⟨g2, cap2, rfl⟩, hf2⟩
  have hf12 := hf1.trans hf2
  go_wp2_with fail
  refine (ex_joined _ (Glob.fr hg hf12)).mono ?_
  rintro e w3 ⟨rfl, hf3⟩
  go_wp2_with fail
  go_ret
  exact ⟨rfl, hf12.trans hf3⟩
end Go.Proofs.YtfmpcchlpplanaaGreatDoor
