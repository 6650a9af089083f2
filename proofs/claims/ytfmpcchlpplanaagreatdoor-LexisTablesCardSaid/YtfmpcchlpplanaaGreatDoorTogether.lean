/- The contract on whether no blank stands between two tokens. -/
import Derived.Test.YtfmpcchlpplanaaGreatDoorCheckTok
namespace Go.Proofs.YtfmpcchlpplanaaGreatDoor
open Go.RowKit

def openT : List (List UInt8) := [[40], [91], [123], [91, 91], [46], [46, 46], [64], [38], [33]]
def shutT : List (List UInt8) := [[44], [59], [41], [93], [125], [93, 93], [46], [46, 46], [58]]
def together (lang : Int) (a b : Tok) : Bool := (decide (a.text ∈ openT) || decide (b.text ∈ shutT)) && readsAs lang (a.text ++ b.text) [a, b]

theorem noBlankBehind_any (k p : Int) (t : List UInt8) (w : World) :
    Calls Tryz.prog 50 #[.agg #[.int .i64 k, .string ⟨t.toArray⟩, .int .i64 p]] w fun e w' => e = .returned (.bool (decide (t ∈ openT))) ∧ Fr w.heap.size w w' := by
  have hf := Fr.self w
  go_enter Tryz.func50, Tryz.ntmps50
  go_wp2
  all_goals (go_ret; exact ⟨ret_bool (by go_light; simp_all [openT]), hf.alloc _⟩)
theorem noBlankBefore_any (k p : Int) (t : List UInt8) (w : World) :
    Calls Tryz.prog 51 #[.agg #[.int .i64 k, .string ⟨t.toArray⟩, .int .i64 p]] w fun e w' => e = .returned (.bool (decide (t ∈ shutT))) ∧ Fr w.heap.size w w' := by
  have hf := Fr.self w
  go_enter Tryz.func51, Tryz.ntmps51
  go_wp2
  all_goals (go_ret; exact ⟨ret_bool (by go_light; simp_all [shutT]), hf.alloc _⟩)

theorem boxes {w W : World} {ak ap bk bp : Int} {at_ bt : List UInt8} (h : Fr ((w.alloc (Obj.cells #[.int .i64 ak, .string ⟨at_.toArray⟩, .int .i64 ap] 43)).alloc (Obj.cells #[.int .i64 bk, .string ⟨bt.toArray⟩, .int .i64 bp] 43)).heap.size ((w.alloc (Obj.cells #[.int .i64 ak, .string ⟨at_.toArray⟩, .int .i64 ap] 43)).alloc (Obj.cells #[.int .i64 bk, .string ⟨bt.toArray⟩, .int .i64 bp] 43)) W) :
    W.cell? ⟨w.heap.size, 0, none⟩ = some (.int .i64 ak) ∧ W.cell? ⟨w.heap.size, 1, none⟩ = some (.string ⟨at_.toArray⟩) ∧ W.cell? ⟨w.heap.size, 2, none⟩ = some (.int .i64 ap) ∧
    W.cell? ⟨w.heap.size + 1, 0, none⟩ = some (.int .i64 bk) ∧ W.cell? ⟨w.heap.size + 1, 1, none⟩ = some (.string ⟨bt.toArray⟩) ∧ W.cell? ⟨w.heap.size + 1, 2, none⟩ = some (.int .i64 bp) ∧ w.heap.size + 2 ≤ W.heap.size := by
  have ha : ∀ j, W.cell? ⟨w.heap.size, j, none⟩ = (#[Value.int .i64 ak, .string ⟨at_.toArray⟩, .int .i64 ap] : Array Value)[j]? := fun j =>
    (h.cell (p := ⟨w.heap.size, j, none⟩) (by simp; omega)).trans ((World.cell?_alloc_lt _ _ _ (by simp)).trans (cell_new w _ _ j))
  have hb : ∀ j, W.cell? ⟨w.heap.size + 1, j, none⟩ = (#[Value.int .i64 bk, .string ⟨bt.toArray⟩, .int .i64 bp] : Array Value)[j]? := fun j => by
    refine (h.cell (p := ⟨w.heap.size + 1, j, none⟩) (by simp)).trans ?_
    simp
  have hs := h.2.size
  simp at hs
  exact ⟨ha 0, ha 1, ha 2, hb 0, hb 1, hb 2, by omega⟩
set_option maxRecDepth 100000 in
theorem standTogether_any (lang : Int) (a b : Tok) (w : World) (hsa : a.text.length ≤ 10000) (hsb : b.text.length ≤ 10000) (hg : Hid (Glob w)) :
    Calls Tryz.prog 34 #[.int .i64 lang, .agg #[.int .i64 a.kind, .string ⟨a.text.toArray⟩, .int .i64 a.pos], .agg #[.int .i64 b.kind, .string ⟨b.text.toArray⟩, .int .i64 b.pos]] w
      fun e w' => e = .returned (.bool (together lang a b)) ∧ Fr w.heap.size w w' := by
  obtain ⟨ak, at_, ap⟩ := a
  obtain ⟨bk, bt, bp⟩ := b
  simp only at hsa hsb ⊢
  have hf0 : Fr w.heap.size w ((w.alloc (Obj.cells #[.int .i64 ak, .string ⟨at_.toArray⟩, .int .i64 ap] 43)).alloc (Obj.cells #[.int .i64 bk, .string ⟨bt.toArray⟩, .int .i64 bp] 43)) := ((Fr.self w).alloc _).alloc _
  have z1 : (ByteArray.mk at_.toArray).size ≤ 10000 := by rw [ba_size, ba_mk]; exact hsa
  have z2 : (ByteArray.mk bt.toArray).size ≤ 10000 := by rw [ba_size, ba_mk]; exact hsb
  have hra : ∀ W : World, Fr w.heap.size w W → Calls Tryz.prog 49 #[.int .i64 lang, .string (ByteArray.mk at_.toArray ++ ByteArray.mk bt.toArray), .slice (some ⟨W.heap.size, 0, none⟩) 2 2] (W.alloc (Obj.cells #[.int .i64 ak, .string ⟨at_.toArray⟩, .int .i64 ap, .int .i64 bk, .string ⟨bt.toArray⟩, .int .i64 bp] 43))
      fun e w' => e = .returned (.bool (readsAs lang (at_ ++ bt) [⟨ak, at_, ap⟩, ⟨bk, bt, bp⟩])) ∧ Fr w.heap.size w w' := by
    intro W hW
    refine carryF (isReadAs_any lang _ (at_ ++ bt) ?_ W.heap.size 2 2 [⟨ak, at_, ap⟩, ⟨bk, bt, bp⟩] rfl (by decide) (by decide) _ ?_ (Glob.fr hg (hW.alloc _)) ?_ (by simp)) (hW.alloc _)
    · rw [ba_append]
    · rw [ba_size, ba_append]; unfold maxLen; simp; omega
    · intro j u h
      have := cells_new W #[.int .i64 ak, .string ⟨at_.toArray⟩, .int .i64 ap, .int .i64 bk, .string ⟨bt.toArray⟩, .int .i64 bp] 43 j u h
      rwa [add_at] at this
  have hv : together lang ⟨ak, at_, ap⟩ ⟨bk, bt, bp⟩ = ((decide (at_ ∈ openT) || decide (bt ∈ shutT)) && readsAs lang (at_ ++ bt) [⟨ak, at_, ap⟩, ⟨bk, bt, bp⟩]) := rfl
  rcases ho : decide (at_ ∈ openT) with _ | _
  · rcases hsh : decide (bt ∈ shutT) with _ | _
    · rw [ho, hsh] at hv
      have Hv := Lib.hid hv; have Ho := Lib.hid ho; have Hsh := Lib.hid hsh; have Hra := Lib.hid hra; clear hv ho hsh hra
      go_enter Tryz.func34, Tryz.ntmps34
      go_wp2_with (first | (go_at_call 50; refine (noBlankBehind_any _ _ _ _).mono ?_; rintro e w1 ⟨rfl, hf1⟩; rw [Ho.out]; obtain ⟨a0, a1, a2, b0, b1, b2, hz1⟩ := boxes hf1) | (go_at_call 51; refine (noBlankBefore_any _ _ _ _).mono ?_; rintro e w2 ⟨rfl, hf2⟩; rw [Hsh.out]; obtain ⟨c0, c1, c2, d0, d1, d2, hz2⟩ := boxes (hf1.trans hf2)))
      go_ret
      exact ⟨by rw [Hv.out]; rfl, hf0.trans (hf1.trans hf2)⟩
    · rw [ho, hsh, Bool.false_or, Bool.true_and] at hv
      have Hv := Lib.hid hv; have Ho := Lib.hid ho; have Hsh := Lib.hid hsh; have Hra := Lib.hid hra; clear hv ho hsh hra
      go_enter Tryz.func34, Tryz.ntmps34
      go_wp2_with (first | (go_at_call 50; refine (noBlankBehind_any _ _ _ _).mono ?_; rintro e w1 ⟨rfl, hf1⟩; rw [Ho.out]; obtain ⟨a0, a1, a2, b0, b1, b2, hz1⟩ := boxes hf1) | (go_at_call 51; refine (noBlankBefore_any _ _ _ _).mono ?_; rintro e w2 ⟨rfl, hf2⟩; rw [Hsh.out]; obtain ⟨c0, c1, c2, d0, d1, d2, hz2⟩ := boxes (hf1.trans hf2)) | (go_at_call 49; refine (Hra.out _ (hf0.trans (hf1.trans hf2))).mono ?_; rintro e w3 ⟨rfl, hf3⟩))
      go_ret
      exact ⟨by rw [Hv.out]; rfl, hf3⟩
  · rw [ho, Bool.true_or, Bool.true_and] at hv
    have Hv := Lib.hid hv; have Ho := Lib.hid ho; have Hra := Lib.hid hra; clear hv ho hra
    go_enter Tryz.func34, Tryz.ntmps34
    go_wp2_with (first | (go_at_call 50; refine (noBlankBehind_any _ _ _ _).mono ?_; rintro e w1 ⟨rfl, hf1⟩; rw [Ho.out]; obtain ⟨a0, a1, a2, b0, b1, b2, hz1⟩ := boxes hf1) | (go_at_call 49; refine (Hra.out _ (hf0.trans hf1)).mono ?_; rintro e w3 ⟨rfl, hf3⟩))
    go_ret
    exact ⟨by rw [Hv.out]; rfl, hf3⟩
end Go.Proofs.YtfmpcchlpplanaaGreatDoor
