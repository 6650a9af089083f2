/- Contracts on the lists of words and symbols, and on whether an item stands in a list. -/
import Derived.Test.YtfmpcchlpplanaaGreatDoorWords
import Derived.Test.YtfmpcchlpplanaaGreatDoorShelf
namespace Go.Proofs.YtfmpcchlpplanaaGreatDoor
open Go.RowKit

/-- What is known of the package-level variables of the library in every world of a call. -/
def Glob (w : World) : Prop :=
  (∃ m, w.cell? ⟨2, 0, none⟩ = some (.int .i64 m)) ∧
  (∃ ev, w.cell? ⟨4, 0, none⟩ = some ev ∧ (ev = .nilIface ∨ ∃ te pe, ev = .iface te pe)) ∧
  (∃ ev, w.cell? ⟨3, 0, none⟩ = some ev ∧ (ev = .nilIface ∨ ∃ te pe, ev = .iface te pe))
theorem Glob.keep {w w' : World} (h : Glob w) (hk : ∀ p : Addr, p.block < w.heap.size → w'.cell? p = w.cell? p) : Glob w' := by
  have hlt : ∀ {p : Addr} {v : Value}, w.cell? p = some v → p.block < w.heap.size := by
    intro p v hv
    rcases Nat.lt_or_ge p.block w.heap.size with h | h
    · exact h
    · simp [World.cell?, Array.getElem?_eq_none h] at hv
  obtain ⟨⟨m, hm⟩, ⟨ev, he, he'⟩, ⟨ev2, hs, hs'⟩⟩ := h
  exact ⟨⟨m, (hk _ (hlt hm)).trans hm⟩, ⟨ev, (hk _ (hlt he)).trans he, he'⟩, ⟨ev2, (hk _ (hlt hs)).trans hs, hs'⟩⟩
theorem Glob.below {w w' : World} (h : Glob w) (hb : Below w.heap.size w w') : Glob w' := h.keep fun _ hp => hb.cell hp
theorem Glob.drewN {w : World} (h : Glob w) (n : Nat) : Glob (w.drewN n) := h
theorem Glob.drew {w : World} (h : Glob w) : Glob w.drew := h

theorem Glob.fr {w0 w : World} (h : Hid (Glob w0)) (hf : Fr w0.heap.size w0 w) : Hid (Glob w) := h.out.below hf.2

theorem wordList_any (lang : Int) (hlang : lang = 0 ∨ lang = 1) (w : World) :
    Calls Tryz.prog 19 #[.int .i64 lang] w fun e w' => e = .returned (.string ⟨(listT (wordsOf lang)).toArray⟩) ∧ w = w' := by
  rcases hlang with rfl | rfl
  all_goals
    go_enter Tryz.func19, Tryz.ntmps19
    go_wp2
    go_ret
    exact ⟨by kernel_rfl, rfl⟩
theorem symbolList_any (lang : Int) (hlang : lang = 0 ∨ lang = 1) (w : World) :
    Calls Tryz.prog 20 #[.int .i64 lang] w fun e w' => e = .returned (.string ⟨(listT (symsOf lang)).toArray⟩) ∧ w = w' := by
  rcases hlang with rfl | rfl
  all_goals
    go_enter Tryz.func20, Tryz.ntmps20
    go_wp2
    go_ret
    exact ⟨by kernel_rfl, rfl⟩
theorem isListed_b (ls item : ByteArray) (b : Bool) (w : World) (hg : Hid (Glob w)) (hl : ls.size < 4294967281) (hi : item.size ≤ 10000) (hb : Hid (Lib.contains ls.data.toList (32 :: (item.data.toList ++ [32])) = b)) :
    Calls Tryz.prog 23 #[.string ls, .string item] w fun e w' => e = .returned (.bool b) ∧ w = w' := by
  obtain ⟨⟨m, hm⟩, -⟩ := hg.out
  go_enter Tryz.func23, Tryz.ntmps23
  go_wp2_with fail
  refine (same_sym (Tryz.strings_Contains ls _ m _ hl hm)).mono ?_
  rintro e w' ⟨rfl, rfl⟩
  go_wp2_with fail
  go_ret
  exact ⟨ret_bool hb.out, rfl⟩

theorem words_size (lang : Int) : (ByteArray.mk (listT (wordsOf lang)).toArray).size < 4294967281 := by
  unfold wordsOf; split <;> decide +kernel
theorem syms_size (lang : Int) : (ByteArray.mk (listT (symsOf lang)).toArray).size < 4294967281 := by
  unfold symsOf; split <;> decide +kernel
theorem ba_mk (l : List UInt8) : (ByteArray.mk l.toArray).data.toList = l := rfl

theorem wordPiece_any (lang : Int) (hlang : lang = 0 ∨ lang = 1) (s : ByteArray) (c : UInt8) (t : List UInt8) (hs : s.data.toList = c :: t) (hc : isLetter c = true) (w : World) (hm : s.size ≤ 10000) (hg : Hid (Glob w)) :
    Calls Tryz.prog 65 #[.int .i64 lang, .string s] w fun e w' => e = .returned (.tuple #[.int .i64 (wordPiece lang (c :: t)).kind, .int .i64 (wordPiece lang (c :: t)).len, .int .i64 (wordPiece lang (c :: t)).err]) ∧ ∃ n, w' = w.drewN n := by
  have hle := wordLen_le lang (c :: t) (by simp)
  have hne := wordLen_ne (lang := lang) (d := c) (t := t) hc
  generalize hl : c :: t = l at *
  have h0 : 0 < s.size := by rw [ba_len hs, ← hl]; simp
  rw [← ba_len hs] at hle
  have Hl := Lib.hid hl; clear hl
  by_cases h32 : 32 < wordLen lang l
  · go_enter Tryz.func65, Tryz.ntmps65
    go_wp2_with (go_at_call 22; refine (wordLength_any _ hlang _ l hs _ hm h0).mono ?_; rintro e w' ⟨rfl, rfl⟩)
    go_ret3
    exact ⟨by simp [wordPiece, h32], 0, rfl⟩
  · have hb : Lib.contains (ByteArray.mk (listT (wordsOf lang)).toArray).data.toList (32 :: ((s.extract 0 (wordLen lang l)).data.toList ++ [32])) = isWord lang (l.take (wordLen lang l)) := by
      rw [ba_mk, ba_take hs, isWord_listed _ _ hne]
    have Hsz := words_size lang
    have Hx : (s.extract 0 (wordLen lang l)).size ≤ 10000 := by rw [ba_size, ba_take hs, List.length_take]; omega
    have Hne := Lib.hid hne; clear hne
    rcases hw : isWord lang (l.take (wordLen lang l)) with _ | _
    all_goals
      rw [hw] at hb
      have Hw := Lib.hid hw; clear hw
      have Hb := Lib.hid hb; clear hb
      go_enter Tryz.func65, Tryz.ntmps65
      go_wp2_with (go_at_call 22; refine (wordLength_any _ hlang _ l hs _ hm h0).mono ?_; rintro e w' ⟨rfl, rfl⟩)
      go_quiet (first | (go_at_call 19; exact quiet_left (wordList_any _ hlang _)) | (go_at_call 23; exact quiet_left (isListed_b _ _ _ _ hg Hsz Hx Hb)))
      go_wp2_with fail
      go_ret3
      exact ⟨by simp [wordPiece, h32, Hw.out], _, rfl⟩
end Go.Proofs.YtfmpcchlpplanaaGreatDoor
