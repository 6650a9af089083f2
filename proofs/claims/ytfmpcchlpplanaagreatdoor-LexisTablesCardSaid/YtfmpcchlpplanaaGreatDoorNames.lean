/- Contracts on names: whether a string is a name of a language; and on whether two lists of strings are the same. -/
import Derived.Test.YtfmpcchlpplanaaGreatDoorRefG
import Derived.Test.YtfmpcchlpplanaaGreatDoorRefC
import Derived.Deep.RegionHeld3
namespace Go.Proofs.YtfmpcchlpplanaaGreatDoor
open Go.RowKit

/-- Is this a name of the language? -/
def isNameB (lang : Int) : List UInt8 → Bool
  | [] => false
  | c :: t => decide ((c :: t).length ≤ 32) && (isLetter c && (decide (wordLen lang (c :: t) = (c :: t).length) && !isWord lang (c :: t)))
theorem tIsLang_any (lang : Int) (w : World) :
    Calls Tryz.prog 8 #[.int .i64 lang] w fun e w' => e = .returned (.bool (decide (lang = 0 ∨ lang = 1))) ∧ w = w' := by
  go_enter Tryz.func8, Tryz.ntmps8
  go_wp2
  all_goals (go_ret; exact ⟨ret_bool (by rw [Bool.eq_iff_iff]; simp <;> omega), rfl⟩)
theorem tWithin_any (n a b : Int) (w : World) :
    Calls Tryz.prog 27 #[.int .i64 n, .int .i64 a, .int .i64 b] w fun e w' => e = .returned (.bool (decide (a ≤ n ∧ n ≤ b))) ∧ w = w' := by
  go_enter Tryz.func27, Tryz.ntmps27
  go_wp2
  all_goals (go_ret; exact ⟨ret_bool (by rw [Bool.eq_iff_iff]; simp <;> omega), rfl⟩)

set_option maxRecDepth 100000 in
theorem sameTexts_any (ws : List (List UInt8)) (ga ca gb cb : Nat) (w : World) (ha : Strs w ga ws) (hb : Strs w gb ws) (hla : ga < w.heap.size) (hlb : gb < w.heap.size) (hn : ws.length ≤ 100000) :
    Calls Tryz.prog 9 #[.slice (some ⟨ga, 0, none⟩) ws.length ca, .slice (some ⟨gb, 0, none⟩) ws.length cb] w fun e w' => e = .returned (.bool true) ∧ Fr w.heap.size w w' := by
  have hbl : ((ws.length : Int) != (ws.length : Int)) = false := by simp
  have Ha := Lib.hid ha; have Hb := Lib.hid hb
  clear ha hb
  go_enter Tryz.func9, Tryz.ntmps9
  go_wp2_with fail
  go_loopw [5] (fun i wr => ∃ k : Nat, k ≤ ws.length ∧ i = .int .i64 k ∧ Fr w.heap.size w wr) (fun i _ => ws.length - (intOf i).toNat)
  case atStart => exact ⟨0, by omega, rfl, Fr.self w⟩
  case round =>
    obtain ⟨k, hk, rfl, hfr⟩ := hrel
    by_cases hkl : k < ws.length
    · obtain ⟨x, hx⟩ : ∃ x, ws[k]? = some x := ⟨_, List.getElem?_eq_getElem hkl⟩
      have g0 : wr.cell? ⟨ga, k, none⟩ = some (.string ⟨x.toArray⟩) := (hfr.cell (p := ⟨ga, k, none⟩) hla).trans (Ha.out k x hx)
      have e0 : wr.cell? ⟨gb, k, none⟩ = some (.string ⟨x.toArray⟩) := (hfr.cell (p := ⟨gb, k, none⟩) hlb).trans (Hb.out k x hx)
      have hkn : (0 : Int) ≤ k := by omega
      have hkm : (k : Int) < ws.length := by omega
      have hbx : (x == x) = true := by simp
      clear hx
      go_wp2_with fail
      go_quiet (fail)
      go_wp2_with fail
      go_roundw
      case rel => exact ⟨k + 1, by omega, by go_num, hfr.drewN _⟩
      case measure => simp [intOf] <;> omega
    · go_wp2_with fail
      go_ret
      exact ⟨rfl, hfr⟩

theorem name_no (lang : Int) (c : UInt8) (t : List UInt8) (h : ¬ ((c :: t).length ≤ 32 ∧ isLetter c = true ∧ wordLen lang (c :: t) = (c :: t).length)) : isNameB lang (c :: t) = false := by
  show (decide ((c :: t).length ≤ 32) && (isLetter c && (decide (wordLen lang (c :: t) = (c :: t).length) && !isWord lang (c :: t)))) = false
  by_cases h1 : (c :: t).length ≤ 32
  · by_cases h2 : isLetter c = true
    · by_cases h3 : wordLen lang (c :: t) = (c :: t).length
      · exact absurd ⟨h1, h2, h3⟩ h
      · rw [decide_eq_false h3]; simp
    · rw [Bool.eq_false_iff.2 h2]; simp
  · rw [decide_eq_false h1]; rfl
theorem name_yes (lang : Int) (c : UInt8) (t : List UInt8) (h1 : (c :: t).length ≤ 32) (h2 : isLetter c = true) (h3 : wordLen lang (c :: t) = (c :: t).length) : isNameB lang (c :: t) = !isWord lang (c :: t) := by
  show (decide ((c :: t).length ≤ 32) && (isLetter c && (decide (wordLen lang (c :: t) = (c :: t).length) && !isWord lang (c :: t)))) = !isWord lang (c :: t)
  rw [decide_eq_true h1, h2, decide_eq_true h3]; rfl

set_option maxRecDepth 100000 in
theorem isNameOf_any (lang : Int) (hlang : lang = 0 ∨ lang = 1) (s : ByteArray) (l : List UInt8) (hs : s.data.toList = l) (w : World) (hm : s.size ≤ 100) (hg : Hid (Glob w)) :
    Calls Tryz.prog 7 #[.int .i64 lang, .string s] w fun e w' => e = .returned (.tuple #[.bool (isNameB lang l), .int .i64 0]) ∧ Fr w.heap.size w w' := by
  have hlg : decide (lang = 0 ∨ lang = 1) = true := decide_eq_true hlang
  have Hlg := Lib.hid hlg; clear hlg
  have hf := Fr.self w
  rcases l with _ | ⟨c, t⟩
  · have h0 : s.size = 0 := by rw [ba_len hs]; rfl
    have he : (s.toList == []) = true := by rw [ByteArray.toList_eq, hs]; rfl
    clear hs
    go_enter Tryz.func7, Tryz.ntmps7
    go_wp2_with (go_at_call 17; refine (isLanguage_any _ _).mono ?_; rintro e w' ⟨rfl, rfl⟩; rw [Hlg.out])
    go_ret2
    exact ⟨rfl, hf⟩
  · have he : (s.toList == []) = false := by rw [ByteArray.toList_eq, hs]; rfl
    have h0 : 0 < s.size := by rw [ba_len hs]; simp
    have hsz : s.size = (c :: t).length := ba_len hs
    have hc : s[0] = c := by rw [ba_get hs 0 h0]; rfl
    by_cases h32 : 32 < s.size
    · have hv := name_no lang c t (fun h => by omega)
      have Hv := Lib.hid hv
      clear hs hv hc hsz
      go_enter Tryz.func7, Tryz.ntmps7
      go_wp2_with (go_at_call 17; refine (isLanguage_any _ _).mono ?_; rintro e w' ⟨rfl, rfl⟩; rw [Hlg.out])
      go_ret2
      exact ⟨by rw [Hv.out]; rfl, hf⟩
    · have hil : ∀ w, Calls Tryz.prog 21 #[.int .u8 (s[0].toNat : Int)] w fun e w' => e = .returned (.bool (isLetter c)) ∧ w = w' := fun w => by rw [hc]; exact isLetter_any c w
      rcases hl : isLetter c with _ | _
      · rw [hl] at hil
        have hv := name_no lang c t (fun h => by rw [hl] at h; exact absurd h.2.1 (by decide))
        have Hv := Lib.hid hv; have Hil := Lib.hid hil
        clear hs hv hc hsz hil hl
        go_enter Tryz.func7, Tryz.ntmps7
        go_wp2_with (first | (go_at_call 17; refine (isLanguage_any _ _).mono ?_; rintro e w' ⟨rfl, rfl⟩; rw [Hlg.out]) | (go_at_call 21; refine (Hil.out _).mono ?_; rintro e w' ⟨rfl, rfl⟩))
        go_ret2
        exact ⟨by rw [Hv.out]; rfl, hf⟩
      · rw [hl] at hil
        have hwl := fun w => wordLength_any lang hlang s _ hs w (by omega) h0
        have Hil := Lib.hid hil; have Hwl := Lib.hid hwl
        by_cases hw : wordLen lang (c :: t) = (c :: t).length
        · have hne := wordLen_ne (lang := lang) (d := c) (t := t) hl
          rw [hw, List.take_length] at hne
          have hb : Lib.contains (ByteArray.mk (listT (wordsOf lang)).toArray).data.toList (32 :: (s.data.toList ++ [32])) = isWord lang (c :: t) := by
            rw [ba_mk, hs, isWord_listed _ _ hne]
          have hv := name_yes lang c t (by omega) hl hw
          have hwz : ((wordLen lang (c :: t) : Int) == (s.size : Int)) = true := by rw [hw, hsz]; simp
          have Hsz := words_size lang
          have hx : s.size ≤ 10000 := by omega
          have Hb := Lib.hid hb; have Hv := Lib.hid hv; have Hlang := Lib.hid hlang
          clear hs hv hc hsz hil hl hwl hw hne hb hlang
          go_enter Tryz.func7, Tryz.ntmps7
          go_wp2_with (first
            | (go_at_call 17; refine (isLanguage_any _ _).mono ?_; rintro e w' ⟨rfl, rfl⟩; rw [Hlg.out])
            | (go_at_call 21; refine (Hil.out _).mono ?_; rintro e w' ⟨rfl, rfl⟩)
            | (go_at_call 22; refine (Hwl.out _).mono ?_; rintro e w' ⟨rfl, rfl⟩)
            | (go_at_call 19; refine (wordList_any _ Hlang.out _).mono ?_; rintro e w' ⟨rfl, rfl⟩)
            | (go_at_call 23; refine (isListed_b _ _ _ _ hg Hsz hx Hb).mono ?_; rintro e w' ⟨rfl, rfl⟩))
          go_ret2
          exact ⟨by rw [Hv.out]; rfl, hf⟩
        · have hv := name_no lang c t (fun h => hw h.2.2)
          have hwz : ((wordLen lang (c :: t) : Int) == (s.size : Int)) = false := by rw [hsz]; simp at hw ⊢; omega
          have Hv := Lib.hid hv
          clear hs hv hc hsz hil hl hwl hw
          go_enter Tryz.func7, Tryz.ntmps7
          go_wp2_with (first
            | (go_at_call 17; refine (isLanguage_any _ _).mono ?_; rintro e w' ⟨rfl, rfl⟩; rw [Hlg.out])
            | (go_at_call 21; refine (Hil.out _).mono ?_; rintro e w' ⟨rfl, rfl⟩)
            | (go_at_call 22; refine (Hwl.out _).mono ?_; rintro e w' ⟨rfl, rfl⟩))
          go_ret2
          exact ⟨by rw [Hv.out]; rfl, hf⟩

set_option maxRecDepth 100000 in
theorem rIsName_any (lang : Int) (hlang : lang = 0 ∨ lang = 1) (s : ByteArray) (l : List UInt8) (hs : s.data.toList = l) (w : World) (hm : s.size ≤ 100) :
    Calls Tryz.prog 12 #[.int .i64 lang, .string s] w fun e w' => e = .returned (.bool (isNameB lang l)) ∧ Fr w.heap.size w w' := by
  have hf := Fr.self w
  rcases l with _ | ⟨c, t⟩
  · have h0 : s.size = 0 := by rw [ba_len hs]; rfl
    have hwi := fun w => tWithin_any (s.size : Int) 1 32 w
    rw [decide_eq_false (show ¬ ((1 : Int) ≤ s.size ∧ (s.size : Int) ≤ 32) by omega)] at hwi
    have Hwi := Lib.hid hwi
    clear hs hwi h0
    go_enter Tryz.func12, Tryz.ntmps12
    go_wp2_with (go_at_call 27; refine (Hwi.out _).mono ?_; rintro e w' ⟨rfl, rfl⟩)
    go_ret
    exact ⟨rfl, hf⟩
  · have h0 : 0 < s.size := by rw [ba_len hs]; simp
    have hsz : s.size = (c :: t).length := ba_len hs
    have hc : s[0] = c := by rw [ba_get hs 0 h0]; rfl
    have hwi := fun w => tWithin_any (s.size : Int) 1 32 w
    by_cases h32 : 32 < s.size
    · rw [decide_eq_false (show ¬ ((1 : Int) ≤ s.size ∧ (s.size : Int) ≤ 32) by omega)] at hwi
      have hv := name_no lang c t (fun h => by omega)
      have Hv := Lib.hid hv; have Hwi := Lib.hid hwi
      clear hs hv hc hsz hwi
      go_enter Tryz.func12, Tryz.ntmps12
      go_wp2_with (go_at_call 27; refine (Hwi.out _).mono ?_; rintro e w' ⟨rfl, rfl⟩)
      go_ret
      exact ⟨by rw [Hv.out]; rfl, hf⟩
    · rw [decide_eq_true (show (1 : Int) ≤ s.size ∧ (s.size : Int) ≤ 32 by omega)] at hwi
      have hil : ∀ w, Calls Tryz.prog 28 #[.int .u8 (s[0].toNat : Int)] w fun e w' => e = .returned (.bool (isLetter c)) ∧ w = w' := fun w => by rw [hc]; exact rLetter_any c w
      have Hwi := Lib.hid hwi
      rcases hl : isLetter c with _ | _
      · rw [hl] at hil
        have hv := name_no lang c t (fun h => by rw [hl] at h; exact absurd h.2.1 (by decide))
        have Hv := Lib.hid hv; have Hil := Lib.hid hil
        clear hs hv hc hsz hil hl hwi
        go_enter Tryz.func12, Tryz.ntmps12
        go_wp2_with (first
          | (go_at_call 27; refine (Hwi.out _).mono ?_; rintro e w' ⟨rfl, rfl⟩)
          | (go_at_call 28; refine (Hil.out _).mono ?_; rintro e w' ⟨rfl, rfl⟩))
        go_ret
        exact ⟨by rw [Hv.out]; rfl, hf⟩
      · rw [hl] at hil
        have hne0 : (c :: t)[0]? ≠ some 45 := by
          intro h
          rw [List.getElem?_cons_zero, Option.some.injEq] at h
          rw [h] at hl; exact absurd hl (by decide)
        have hen := fun w => nameEnd_any lang hlang s _ hs 0 w (by omega) h0 hne0
        have hto : nameTo lang (c :: t) 0 = wordLen lang (c :: t) := by unfold nameTo; rw [List.drop_zero, Nat.zero_add]
        rw [hto] at hen
        have Hil := Lib.hid hil; have Hen := Lib.hid hen
        by_cases hw : wordLen lang (c :: t) = (c :: t).length
        · have hv := name_yes lang c t (by omega) hl hw
          have hwz : ((wordLen lang (c :: t) : Int) == (s.size : Int)) = true := by rw [hw, hsz]; simp
          have hwo := fun w => rWords_any lang hlang w
          have hha := fun g w (h : Strs w g (wordsOf lang)) => hasText_any (wordsOf lang) g (wordsOf lang).length s _ hs w h (by unfold wordsOf; split <;> decide)
          have hiw : decide ((c :: t) ∈ wordsOf lang) = isWord lang (c :: t) := rfl
          rw [hiw] at hha
          have Hwo := Lib.hid hwo; have Hha := Lib.hid hha; have Hv := Lib.hid hv
          clear hs hv hc hsz hil hl hwi hen hto hw hne0 hwo hha hiw hlang
          go_enter Tryz.func12, Tryz.ntmps12
          go_wp2_with (first
            | (go_at_call 27; refine (Hwi.out _).mono ?_; rintro e w' ⟨rfl, rfl⟩)
            | (go_at_call 28; refine (Hil.out _).mono ?_; rintro e w' ⟨rfl, rfl⟩)
            | (go_at_call 29; refine (Hen.out _).mono ?_; rintro e w' ⟨rfl, rfl⟩)
            | (go_at_call 10; refine (Hwo.out _).mono ?_; rintro e w2 ⟨rfl, hst, hf2⟩)
            | (go_at_call 30; refine (Hha.out _ _ hst).mono ?_; rintro e w3 ⟨rfl, rfl⟩))
          go_ret
          exact ⟨by rw [Hv.out]; rfl, hf2⟩
        · have hv := name_no lang c t (fun h => hw h.2.2)
          have hwz : ((wordLen lang (c :: t) : Int) == (s.size : Int)) = false := by rw [hsz]; simp at hw ⊢; omega
          have Hv := Lib.hid hv
          clear hs hv hc hsz hil hl hwi hen hto hw hne0
          go_enter Tryz.func12, Tryz.ntmps12
          go_wp2_with (first
            | (go_at_call 27; refine (Hwi.out _).mono ?_; rintro e w' ⟨rfl, rfl⟩)
            | (go_at_call 28; refine (Hil.out _).mono ?_; rintro e w' ⟨rfl, rfl⟩)
            | (go_at_call 29; refine (Hen.out _).mono ?_; rintro e w' ⟨rfl, rfl⟩))
          go_ret
          exact ⟨by rw [Hv.out]; rfl, hf⟩
end Go.Proofs.YtfmpcchlpplanaaGreatDoor
