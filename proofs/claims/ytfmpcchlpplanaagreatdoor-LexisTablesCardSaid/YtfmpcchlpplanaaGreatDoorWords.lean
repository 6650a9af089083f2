/- Contracts on names and reserved words: how long the name is that begins a string, and whether it is reserved. -/
import Derived.Test.YtfmpcchlpplanaaGreatDoorChars
import Derived.Test.YtfmpcchlpplanaaGreatDoorLexA
namespace Go.Proofs.YtfmpcchlpplanaaGreatDoor
open Go.RowKit

theorem continuesWord_any (lang : Int) (hlang : lang = 0 ∨ lang = 1) (s : ByteArray) (c : UInt8) (t : List UInt8) (hs : s.data.toList = c :: t) (w : World) (hm : s.size ≤ 10000) :
    Calls Tryz.prog 41 #[.int .i64 lang, .string s] w fun e w' => e = .returned (.bool (wordCont lang (c :: t))) ∧ w = w' := by
  obtain ⟨h0, hc, -⟩ := ba_at hs 0 (c := c) (t := t) rfl
  have Hc := Lib.hid hc; clear hc
  rcases t with _ | ⟨d, t⟩
  · have h1 : s.size ≤ 1 := by rw [ba_len hs]; simp
    clear hs
    rcases hlang with rfl | rfl
    all_goals
      go_enter Tryz.func41, Tryz.ntmps41
      go_wp2_with (go_at_call 57; refine (isLetterOrDigit_any _ _).mono ?_; rintro e w' ⟨rfl, rfl⟩)
      all_goals (go_ret; exact ⟨ret_bool (by go_light; have e := Hc.out; clear Hc; simp_all [wordCont] <;> first | (intros; omega) | (rw [Bool.eq_iff_iff]; simp; omega)), rfl⟩)
  · obtain ⟨h1, hd, -⟩ := ba_at hs 1 (c := d) (t := t) rfl
    have Hd := Lib.hid hd; clear hd hs
    rcases hlang with rfl | rfl
    all_goals
      go_enter Tryz.func41, Tryz.ntmps41
      go_wp2_with (go_at_call 57; refine (isLetterOrDigit_any _ _).mono ?_; rintro e w' ⟨rfl, rfl⟩)
      all_goals (go_ret; exact ⟨ret_bool (by go_light; have e := Hc.out; have e' := Hd.out; clear Hc Hd; simp_all [wordCont] <;> first | (intros; omega) | (rw [Bool.eq_iff_iff]; simp; omega)), rfl⟩)

theorem wordLength_any (lang : Int) (hlang : lang = 0 ∨ lang = 1) (s : ByteArray) (l : List UInt8) (hs : s.data.toList = l) (w : World) (hm : s.size ≤ 10000) (h0 : 0 < s.size) :
    Calls Tryz.prog 22 #[.int .i64 lang, .string s] w fun e w' => e = .returned (.int .i64 (wordLen lang l)) ∧ w = w' := by
  have Hs := Lib.hid hs; clear hs
  go_enter Tryz.func22, Tryz.ntmps22
  go_wp2
  go_loop [5] (fun i => ∃ k : Nat, k ≤ s.size ∧ 1 ≤ k ∧ i = .int .i64 k ∧ Hid (wordLen lang l = wordTail lang (l.drop k) + k)) (fun i => s.size - (intOf i).toNat)
  case atStart => exact ⟨1, by omega, by omega, rfl, rfl⟩
  case round =>
    obtain ⟨k, hk, hk1, rfl, HR⟩ := hrel
    rcases hd : l.drop k with _ | ⟨c, t⟩
    · have hge := ba_end Hs.out k hd
      have Hd := Lib.hid hd; clear hd
      go_wp2_with fail
      go_ret
      exact ⟨ret_int (by rw [HR.out, Hd.out]; simp [wordTail]), rfl⟩
    · obtain ⟨hlt, -, ht⟩ := ba_at Hs.out k hd
      have Hd := Lib.hid hd; have Ht := Lib.hid ht; clear hd ht
      have hx : (s.extract k s.size).size ≤ 10000 := by rw [ba_size, ba_drop Hs.out, List.length_drop]; have := ba_len Hs.out; omega
      rcases hcont : wordCont lang (c :: t) with _ | _
      all_goals
        have Hcont := Lib.hid hcont; clear hcont
        go_wp2_with (go_at_call 41; refine (continuesWord_any _ hlang _ c t ((ba_drop Hs.out k).trans Hd.out) _ hx).mono ?_; rintro e w' ⟨rfl, rfl⟩; rw [Hcont.out])
      · go_ret
        exact ⟨ret_int (by rw [HR.out, Hd.out, wordTail, if_neg (by rw [Hcont.out]; decide)]; simp), rfl⟩
      · go_round
        case rel => exact ⟨k + 1, by omega, by omega, by go_num, by unfold Hid; rw [HR.out, Hd.out, Ht.out, wordTail, if_pos Hcont.out]; omega⟩
        case measure => simp [intOf]; omega
end Go.Proofs.YtfmpcchlpplanaaGreatDoor
