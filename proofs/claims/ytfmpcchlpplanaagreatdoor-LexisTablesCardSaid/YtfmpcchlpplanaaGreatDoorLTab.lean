/- The law of the tables of a language, walked. -/
import Derived.Test.YtfmpcchlpplanaaGreatDoorTables
import Derived.Test.YtfmpcchlpplanaaGreatDoorNames
import Derived.Test.YtfmpcchlpplanaaGreatDoorAwake
namespace Go.Proofs.YtfmpcchlpplanaaGreatDoor
open Go.RowKit

theorem strs_lt {w : World} {g : Nat} {ws : List (List UInt8)} (h : Strs w g ws) (h0 : 0 < ws.length) : g < w.heap.size := by
  have hc := h 0 _ (List.getElem?_eq_getElem h0)
  rcases Nat.lt_or_ge g w.heap.size with h | h
  · exact h
  · simp [World.cell?, Array.getElem?_eq_none h] at hc
theorem wordsOf_no (lang : Int) (hlang : ¬ (lang = 0 ∨ lang = 1)) (w : World) :
    Calls Tryz.prog 5 #[.int .i64 lang] w fun e w' => e = .returned (.tuple #[.slice none 0 0, .int .i64 4]) ∧ w = w' := by
  have hlg : decide (lang = 0 ∨ lang = 1) = false := decide_eq_false hlang
  have Hlg := Lib.hid hlg; clear hlg hlang
  go_enter Tryz.func5, Tryz.ntmps5
  go_wp2_with (go_at_call 17; refine (isLanguage_any _ _).mono ?_; rintro e w' ⟨rfl, rfl⟩; rw [Hlg.out])
  go_ret2
  exact ⟨rfl, rfl⟩
theorem symbolsOf_no (lang : Int) (hlang : ¬ (lang = 0 ∨ lang = 1)) (w : World) :
    Calls Tryz.prog 6 #[.int .i64 lang] w fun e w' => e = .returned (.tuple #[.slice none 0 0, .int .i64 4]) ∧ w = w' := by
  have hlg : decide (lang = 0 ∨ lang = 1) = false := decide_eq_false hlang
  have Hlg := Lib.hid hlg; clear hlg hlang
  go_enter Tryz.func6, Tryz.ntmps6
  go_wp2_with (go_at_call 17; refine (isLanguage_any _ _).mono ?_; rintro e w' ⟨rfl, rfl⟩; rw [Hlg.out])
  go_ret2
  exact ⟨rfl, rfl⟩
theorem isNameOf_no (lang : Int) (hlang : ¬ (lang = 0 ∨ lang = 1)) (s : ByteArray) (w : World) :
    Calls Tryz.prog 7 #[.int .i64 lang, .string s] w fun e w' => e = .returned (.tuple #[.bool false, .int .i64 4]) ∧ w = w' := by
  have hlg : decide (lang = 0 ∨ lang = 1) = false := decide_eq_false hlang
  have Hlg := Lib.hid hlg; clear hlg hlang
  go_enter Tryz.func7, Tryz.ntmps7
  go_wp2_with (go_at_call 17; refine (isLanguage_any _ _).mono ?_; rintro e w' ⟨rfl, rfl⟩; rw [Hlg.out])
  go_ret2
  exact ⟨rfl, rfl⟩
theorem wordsOf_any (lang : Int) (hlang : lang = 0 ∨ lang = 1) (w : World) (ht : Hid (Tab w)) :
    Calls Tryz.prog 5 #[.int .i64 lang] w fun e w' => e = .returned (.tuple #[.slice (some ⟨w.heap.size, 0, none⟩) (wordsOf lang).length (wordsOf lang).length, .int .i64 0]) ∧ Strs w' w.heap.size (wordsOf lang) ∧ w.heap.size < w'.heap.size ∧ Fr w.heap.size w w' := by
  have hlg : decide (lang = 0 ∨ lang = 1) = true := decide_eq_true hlang
  have has := fun w (ht : Hid (Tab w)) => ascending_any (listT (wordsOf lang)) _ _ w (words_size lang) (words_ascii lang) (words_fields lang) (words_sorted lang) (words_len lang).2 ht
  have Hlg := Lib.hid hlg; have Has := Lib.hid has; clear hlg has
  go_enter Tryz.func5, Tryz.ntmps5
  go_wp2_with (first | (go_at_call 17; refine (isLanguage_any _ _).mono ?_; rintro e w' ⟨rfl, rfl⟩; rw [Hlg.out]) | (go_at_call 19; refine (wordList_any _ hlang _).mono ?_; rintro e w' ⟨rfl, rfl⟩) | (go_at_call 18; refine (Has.out _ ht).mono ?_; rintro e w' ⟨rfl, h1, h2, h3⟩))
  go_ret2
  exact ⟨rfl, h1, h2, h3⟩
theorem symbolsOf_any (lang : Int) (hlang : lang = 0 ∨ lang = 1) (w : World) (ht : Hid (Tab w)) :
    Calls Tryz.prog 6 #[.int .i64 lang] w fun e w' => e = .returned (.tuple #[.slice (some ⟨w.heap.size, 0, none⟩) (putAll (symsOf lang)).length (putAll (symsOf lang)).length, .int .i64 0]) ∧ Strs w' w.heap.size (putAll (symsOf lang)) ∧ w.heap.size < w'.heap.size ∧ Fr w.heap.size w w' := by
  have hlg : decide (lang = 0 ∨ lang = 1) = true := decide_eq_true hlang
  have has := fun w (ht : Hid (Tab w)) => ascending_any (listT (symsOf lang)) _ _ w (syms_size lang) (syms_ascii lang) (syms_fields lang) (syms_sorted lang) (syms_len lang).2.1 ht
  have Hlg := Lib.hid hlg; have Has := Lib.hid has; clear hlg has
  go_enter Tryz.func6, Tryz.ntmps6
  go_wp2_with (first | (go_at_call 17; refine (isLanguage_any _ _).mono ?_; rintro e w' ⟨rfl, rfl⟩; rw [Hlg.out]) | (go_at_call 20; refine (symbolList_any _ hlang _).mono ?_; rintro e w' ⟨rfl, rfl⟩) | (go_at_call 18; refine (Has.out _ ht).mono ?_; rintro e w' ⟨rfl, h1, h2, h3⟩))
  go_ret2
  exact ⟨rfl, h1, h2, h3⟩

set_option maxRecDepth 100000 in
set_option maxHeartbeats 4000000 in
theorem lexisTables_any (lang : Int) (s : ByteArray) (w : World) (hm : s.size ≤ maxLen) (hg : Hid (Glob w)) (ht : Hid (Tab w)) :
    Calls Tryz.prog 3 #[.int .i64 lang, .string s] w fun e w' => e = .returned (.bool true) ∧ Fr w.heap.size w w' := by
  obtain ⟨l, hs⟩ : ∃ l, s.data.toList = l := ⟨_, rfl⟩
  have Haw := Lib.hid (awake_any w hg)
  by_cases h100 : 100 < s.size
  · clear hs
    go_enter Tryz.func3, Tryz.ntmps3
    go_wp2_with (go_at_call 4; refine (Haw.out).mono ?_; rintro e w' ⟨rfl, hf⟩)
    go_ret
    exact ⟨rfl, hf⟩
  · have h100' : s.size ≤ 100 := by omega
    by_cases hlang : lang = 0 ∨ lang = 1
    · have hwl := words_len lang
      have hsl := syms_len lang
      have Hio := Lib.hid (fun w hg => isNameOf_any lang hlang s l hs w h100' hg)
      have Hri := Lib.hid (fun w => rIsName_any lang hlang s l hs w h100')
      have Hwo := Lib.hid (fun w ht => wordsOf_any lang hlang w ht)
      have Hso := Lib.hid (fun w ht => symbolsOf_any lang hlang w ht)
      have Hrw := Lib.hid (fun w => rWords_any lang hlang w)
      have Hrs := Lib.hid (fun w => symbols_any lang hlang w)
      have hil := fun w => tIsLang_any lang w
      rw [decide_eq_true hlang] at hil
      have Hil := Lib.hid hil
      generalize isNameB lang l = b at Hio Hri
      obtain ⟨W, hW⟩ : ∃ W, wordsOf lang = W := ⟨_, rfl⟩
      obtain ⟨S, hS⟩ : ∃ S, putAll (symsOf lang) = S := ⟨_, rfl⟩
      rw [hW] at hwl Hwo Hrw
      rw [hS] at hsl Hso Hrs
      clear hs hm hil hW hS hlang
      go_enter Tryz.func3, Tryz.ntmps3
      go_wp2_with (go_at_call 4; refine (Haw.out).mono ?_; rintro e w1 ⟨rfl, hf1⟩)
      refine (Hwo.out _ (Tab.fr ht hf1)).mono ?_
      rintro e w2 ⟨rfl, s2, g2, hf2⟩
      go_wp2_with fail
      have hf12 := hf1.trans hf2
      refine (Hso.out _ (Tab.fr ht hf12)).mono ?_
      rintro e w3 ⟨rfl, s3, g3, hf3⟩
      go_wp2_with fail
      have hf13 := hf12.trans hf3
      refine (Hio.out _ (Glob.fr hg hf13)).mono ?_
      rintro e w4 ⟨rfl, hf4⟩
      have hf14 := hf13.trans hf4
      have S2 : Hid (Strs w4 w1.heap.size W) := strs_fr (strs_fr s2 g2 hf3.2) (Nat.lt_of_lt_of_le g2 hf3.2.size) hf4.2
      have S3 : Hid (Strs w4 w2.heap.size S) := strs_fr s3 g3 hf4.2
      have G2 : w1.heap.size < w4.heap.size := Nat.lt_of_lt_of_le g2 (Nat.le_trans hf3.2.size hf4.2.size)
      have G3 : w2.heap.size < w4.heap.size := Nat.lt_of_lt_of_le g3 hf4.2.size
      clear s2 s3 g2 g3 hf1 hf2 hf3 hf4 hf12 hf13
      have hbb : (b == b) = true := by simp
      go_wp2_with (go_at_call 8; refine (Hil.out _).mono ?_; rintro e w' ⟨rfl, rfl⟩)
      refine (Hrw.out _).mono ?_
      rintro e w5 ⟨rfl, s5, hf5⟩
      go_wp2_with fail
      refine (sameTexts_any W w1.heap.size _ w4.heap.size _ w5 (strs_fr S2.out G2 hf5.2) s5 (Nat.lt_of_lt_of_le G2 hf5.2.size) (strs_lt s5 hwl.1) (by omega)).mono ?_
      rintro e w6 ⟨rfl, hf6⟩
      have hf46 := hf5.trans hf6
      clear s5 hf5 hf6
      go_wp2_with fail
      refine (Hrs.out _).mono ?_
      rintro e w7 ⟨⟨v7, rfl, hv7⟩, hf7⟩
      have hf47 := hf46.trans hf7
      rcases hv7 with ⟨-, h0⟩ | ⟨g7, c7, rfl, hg7, -, -, s7⟩
      · rw [h0] at hsl
        exact absurd hsl.1 (by decide)
      go_wp2_with fail
      refine (sameTexts_any S w2.heap.size _ g7 _ w7 (strs_fr S3.out G3 hf47.2) s7 (Nat.lt_of_lt_of_le G3 hf47.2.size) hg7 (by omega)).mono ?_
      rintro e w8 ⟨rfl, hf8⟩
      have hf48 := hf47.trans hf8
      clear s7 hf7 hf8
      go_wp2_with fail
      refine (Hri.out _).mono ?_
      rintro e w9 ⟨rfl, hf9⟩
      have hfin := hf14.trans (hf48.trans hf9)
      go_wp2_with fail
      go_ret
      exact ⟨rfl, hfin⟩
    · have hil := fun w => tIsLang_any lang w
      rw [decide_eq_false hlang] at hil
      have Hil := Lib.hid hil
      have Hwo := Lib.hid (fun w => wordsOf_no lang hlang w)
      have Hso := Lib.hid (fun w => symbolsOf_no lang hlang w)
      have Hio := Lib.hid (fun w => isNameOf_no lang hlang s w)
      clear hs hm hil hlang
      go_enter Tryz.func3, Tryz.ntmps3
      go_wp2_with (first
        | (go_at_call 4; refine (Haw.out).mono ?_; rintro e w1 ⟨rfl, hf⟩)
        | (go_at_call 5; refine (Hwo.out _).mono ?_; rintro e w' ⟨rfl, rfl⟩)
        | (go_at_call 6; refine (Hso.out _).mono ?_; rintro e w' ⟨rfl, rfl⟩)
        | (go_at_call 7; refine (Hio.out _).mono ?_; rintro e w' ⟨rfl, rfl⟩)
        | (go_at_call 8; refine (Hil.out _).mono ?_; rintro e w' ⟨rfl, rfl⟩))
      go_ret
      exact ⟨rfl, hf⟩
end Go.Proofs.YtfmpcchlpplanaaGreatDoor
