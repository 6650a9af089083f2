/- The contract on which tokens are right. -/
import Derived.Test.YtfmpcchlpplanaaGreatDoorReadAs
namespace Go.Proofs.YtfmpcchlpplanaaGreatDoor
open Go.RowKit

def tokErr (lang : Int) (t : Tok) : Int :=
  if ¬ (lang = 0 ∨ lang = 1) then 4 else if t.kind < 0 ∨ 7 ≤ t.kind then 4 else if readsAs lang t.text [t] = false then 8 else if t.pos < 0 ∨ 8000 < t.pos then 3 else 0
theorem tokcells_new1 (w : World) (t : Tok) : ∀ (j : Nat) (u : Value), (tokCells [t])[j]? = some u → (w.alloc (.cells #[.int .i64 t.kind, .string ⟨t.text.toArray⟩, .int .i64 t.pos] 43)).cell? ⟨w.heap.size, j, none⟩ = some u := by
  intro j u h
  have := cells_new w #[.int .i64 t.kind, .string ⟨t.text.toArray⟩, .int .i64 t.pos] 43 j u h
  rwa [add_at] at this

set_option maxRecDepth 100000 in
theorem checkToken_any (lang : Int) (t : Tok) (w : World) (hsz : t.text.length ≤ 10000) (hg : Hid (Glob w)) :
    Calls Tryz.prog 33 #[.int .i64 lang, .agg #[.int .i64 t.kind, .string ⟨t.text.toArray⟩, .int .i64 t.pos]] w fun e w' => e = .returned (.int .i64 (tokErr lang t)) ∧ Fr w.heap.size w w' := by
  have hf := Fr.self w
  obtain ⟨tk, tt, tp⟩ := t
  have hsz' : (ByteArray.mk tt.toArray).size ≤ maxLen := by rw [ba_size, ba_mk]; unfold maxLen; simp at hsz; omega
  simp only at hsz ⊢
  by_cases hlang : lang = 0 ∨ lang = 1
  · have hlg := decide_eq_true hlang
    have Hlg := Lib.hid hlg; clear hlg
    by_cases hk : tk < 0 ∨ 7 ≤ tk
    · have hv : tokErr lang ⟨tk, tt, tp⟩ = 4 := by unfold tokErr; rw [if_neg (fun h => h hlang), if_pos hk]
      have Hv := Lib.hid hv; clear hv
      rcases hk with hk | hk
      all_goals
        go_enter Tryz.func33, Tryz.ntmps33
        go_wp2_with (go_at_call 17; refine (isLanguage_any _ _).mono ?_; rintro e w' ⟨rfl, rfl⟩; rw [Hlg.out])
        go_ret
        exact ⟨by rw [Hv.out]; rfl, hf.alloc _⟩
    · have hk1 : 0 ≤ tk := by omega
      have hk2 : tk < 7 := by omega
      have hv : tokErr lang ⟨tk, tt, tp⟩ = if readsAs lang tt [⟨tk, tt, tp⟩] = false then 8 else if tp < 0 ∨ 8000 < tp then 3 else 0 := by unfold tokErr; rw [if_neg (fun h => h hlang), if_neg hk]
      have hra : Calls Tryz.prog 49 #[.int .i64 lang, .string ⟨tt.toArray⟩, .slice (some ⟨w.heap.size + 1, 0, none⟩) 1 1] ((w.alloc (Obj.cells #[.int .i64 tk, .string ⟨tt.toArray⟩, .int .i64 tp] 43)).alloc (Obj.cells #[.int .i64 tk, .string ⟨tt.toArray⟩, .int .i64 tp] 43)) fun e w' => e = .returned (.bool (readsAs lang tt [⟨tk, tt, tp⟩])) ∧ Fr ((w.alloc (Obj.cells #[.int .i64 tk, .string ⟨tt.toArray⟩, .int .i64 tp] 43)).alloc (Obj.cells #[.int .i64 tk, .string ⟨tt.toArray⟩, .int .i64 tp] 43)).heap.size ((w.alloc (Obj.cells #[.int .i64 tk, .string ⟨tt.toArray⟩, .int .i64 tp] 43)).alloc (Obj.cells #[.int .i64 tk, .string ⟨tt.toArray⟩, .int .i64 tp] 43)) w' := by
        refine isReadAs_any lang ⟨tt.toArray⟩ tt rfl (w.heap.size + 1) 1 1 [⟨tk, tt, tp⟩] rfl (by decide) (by decide) _ hsz' (Glob.fr hg ((hf.alloc _).alloc _)) ?_ (by simp)
        intro j u h
        have := tokcells_new1 (w.alloc (Obj.cells #[.int .i64 tk, .string ⟨tt.toArray⟩, .int .i64 tp] 43)) ⟨tk, tt, tp⟩ j u h
        simpa using this
      rcases hr : readsAs lang tt [⟨tk, tt, tp⟩] with _ | _
      · rw [hr] at hv hra
        rw [if_pos rfl] at hv
        have Hv := Lib.hid hv; have Hra := Lib.hid hra; clear hv hra hr hk
        go_enter Tryz.func33, Tryz.ntmps33
        go_wp2_with (first | (go_at_call 17; refine (isLanguage_any _ _).mono ?_; rintro e w' ⟨rfl, rfl⟩; rw [Hlg.out]) | (go_at_call 49; refine Hra.out.mono ?_; rintro e w2 ⟨rfl, hf2⟩))
        go_ret
        exact ⟨by rw [Hv.out]; rfl, ((hf.alloc _).alloc _).trans hf2⟩
      · rw [hr] at hv hra
        rw [if_neg (by decide)] at hv
        by_cases hp : tp < 0 ∨ 8000 < tp
        · rw [if_pos hp] at hv
          have Hv := Lib.hid hv; have Hra := Lib.hid hra; clear hv hra hr hk
          rcases hp with hp | hp
          all_goals
            go_enter Tryz.func33, Tryz.ntmps33
            go_wp2_with (first | (go_at_call 17; refine (isLanguage_any _ _).mono ?_; rintro e w' ⟨rfl, rfl⟩; rw [Hlg.out]) | (go_at_call 49; refine Hra.out.mono ?_; rintro e w2 ⟨rfl, hf2⟩; have c2 : w2.cell? ⟨w.heap.size, 2, none⟩ = some (.int .i64 tp) := (hf2.cell (p := ⟨w.heap.size, 2, none⟩) (by simp; omega)).trans ((World.cell?_alloc_lt _ _ _ (by simp)).trans (cell_new w _ _ 2))))
            go_ret
            exact ⟨by rw [Hv.out]; rfl, ((hf.alloc _).alloc _).trans hf2⟩
        · rw [if_neg hp] at hv
          have hp1 : 0 ≤ tp := by omega
          have hp2 : tp ≤ 8000 := by omega
          have Hv := Lib.hid hv; have Hra := Lib.hid hra; clear hv hra hr hk hp
          go_enter Tryz.func33, Tryz.ntmps33
          go_wp2_with (first | (go_at_call 17; refine (isLanguage_any _ _).mono ?_; rintro e w' ⟨rfl, rfl⟩; rw [Hlg.out]) | (go_at_call 49; refine Hra.out.mono ?_; rintro e w2 ⟨rfl, hf2⟩; have c2 : w2.cell? ⟨w.heap.size, 2, none⟩ = some (.int .i64 tp) := (hf2.cell (p := ⟨w.heap.size, 2, none⟩) (by simp; omega)).trans ((World.cell?_alloc_lt _ _ _ (by simp)).trans (cell_new w _ _ 2))))
          go_ret
          exact ⟨by rw [Hv.out]; rfl, ((hf.alloc _).alloc _).trans hf2⟩
  · have hlg := decide_eq_false hlang
    have hv : tokErr lang ⟨tk, tt, tp⟩ = 4 := by unfold tokErr; rw [if_pos hlang]
    have Hlg := Lib.hid hlg; have Hv := Lib.hid hv; clear hlg hv hlang
    go_enter Tryz.func33, Tryz.ntmps33
    go_wp2_with (go_at_call 17; refine (isLanguage_any _ _).mono ?_; rintro e w' ⟨rfl, rfl⟩; rw [Hlg.out])
    go_ret
    exact ⟨by rw [Hv.out]; rfl, hf.alloc _⟩
end Go.Proofs.YtfmpcchlpplanaaGreatDoor
