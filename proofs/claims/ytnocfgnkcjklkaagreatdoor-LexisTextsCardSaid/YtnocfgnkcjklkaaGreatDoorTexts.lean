/- The law of right texts and of places, walked. -/
import Derived.Test.YtnocfgnkcjklkaaGreatDoorPlace
import Derived.Test.YtnocfgnkcjklkaaGreatDoorFrame
namespace Go.Proofs.YtnocfgnkcjklkaaGreatDoor
open Go.RowKit

set_option maxRecDepth 100000 in
theorem lexisTexts_any (s : ByteArray) (p : Int) (hp : p < 9223372036854775808) (w : World) (hm : s.size ≤ maxLen) (hg : Hid (Glob w)) :
    Calls Tryz.prog 3 #[.string s, .int .i64 p] w fun e w' => e = .returned (.bool true) ∧ Fr w.heap.size w w' := by
  obtain ⟨l, hs⟩ : ∃ l, s.data.toList = l := ⟨_, rfl⟩
  have hlen := ba_len hs
  have Haw := Lib.hid (awake_any w hg)
  have Hsh := Lib.hid (fun w => short_any s w hm)
  have Hct := Lib.hid (fun w => checkText_any s l hs w hm)
  have Hrc := Lib.hid (fun w => rCheck_any s l hs w hm)
  have Hpl := Lib.hid (fun w => placeOf_any s l hs p hp w hm)
  clear hp
  have Hm := Lib.hid hm
  unfold maxLen at hm
  have Hms := Lib.hid hm
  cases hsh : isShort s.size with
  | false =>
    have Hb := Lib.hid hsh
    clear hs hlen hm hsh
    go_enter Tryz.func3, Tryz.ntmps3
    go_wp2_with (first
      | (go_at_call 12; refine (Haw.out).mono ?_; rintro e w' ⟨rfl, hf⟩)
      | (go_at_call 13; refine (Hsh.out _).mono ?_; rintro e w'' ⟨rfl, rfl⟩; rw [Hb.out]))
    go_ret
    exact ⟨rfl, hf⟩
  | true =>
    have Hb := Lib.hid hsh
    clear hsh
    by_cases h1 : (checkText l).2 = 0
    · have hb1 : ((checkText l).2 == 0) = true := by rw [h1]; rfl
      have h8 : s.size ≤ 8000 := by
        unfold checkText at h1
        by_cases h : 8000 < l.length
        · rw [if_pos h] at h1; cases h1
        · omega
      by_cases h2 : p < 0 ∨ (s.size : Int) < p
      · have hv : placeOf l p = (0, 0, 3) := by unfold placeOf; rw [if_neg (by simpa using h1), if_pos (by omega)]
        have hd : decide ((0 : Int) ≤ p ∧ p ≤ (s.size : Int)) = false := by simp; omega
        have Hv := Lib.hid hv; have Hd := Lib.hid hd; have H1 := Lib.hid h1
        clear hs hlen hm h8 h2 hv hd h1 hb1
        go_enter Tryz.func3, Tryz.ntmps3
        go_wp2_with (first
          | (go_at_call 12; refine (Haw.out).mono ?_; rintro e w' ⟨rfl, hf⟩)
          | (go_at_call 13; refine (Hsh.out _).mono ?_; rintro e w'' ⟨rfl, rfl⟩; rw [Hb.out])
          | (go_at_call 14; refine (Hct.out _).mono ?_; rintro e w'' ⟨rfl, rfl⟩; rw [H1.out])
          | (go_at_call 15; refine (Hrc.out _).mono ?_; rintro e w'' ⟨rfl, rfl⟩; rw [H1.out])
          | (go_at_call 16; refine (Hpl.out _).mono ?_; rintro e w'' ⟨rfl, rfl⟩; rw [Hv.out])
          | (go_at_call 17; refine (within_any _ _ _ _).mono ?_; rintro e w'' ⟨rfl, rfl⟩; rw [Hd.out]))
        go_ret
        exact ⟨rfl, hf⟩
      · obtain ⟨n, rfl⟩ : ∃ n : Nat, p = n := ⟨p.toNat, by omega⟩
        have hn : n ≤ s.size := by omega
        have hv : placeOf l n = ((1 + ((l.take n).count 10 : Nat) : Int), (n : Int) - nlBefore l n, 0) := by
          unfold placeOf; rw [if_neg (by simpa using h1), if_neg (by omega)]; rfl
        have hd : decide ((0 : Int) ≤ (n : Int) ∧ (n : Int) ≤ (s.size : Int)) = true := by simp; omega
        have hcb : ∀ k, (l.take k).count 10 ≤ 8000 := fun k => by
          have := List.count_le_length (a := (10 : UInt8)) (l := l.take k)
          rw [List.length_take] at this; omega
        have hnb := fun k => nlBefore_bounds l k
        have hstep : ∀ k (hk : k < s.size), ((l.take (k + 1)).count 10 = (l.take k).count 10 + (if s[k].toNat = 10 then 1 else 0)) ∧ (nlBefore l (k + 1) = if s[k].toNat = 10 then (k : Int) else nlBefore l k) := by
          intro k hk
          have hkl : k < l.length := by omega
          have e := ba_get hs k hk
          rw [nlBefore, List.take_succ_eq_append_getElem hkl, List.count_append, List.count_cons, List.count_nil, List.getElem?_eq_getElem hkl, ← e]
          have h10 : (s[k] == 10) = decide (s[k].toNat = 10) := by
            rw [Bool.eq_iff_iff, beq_iff_eq, decide_eq_true_eq, ← UInt8.toNat_inj]; rfl
          have h11 : (some s[k] = some (10 : UInt8)) ↔ (s[k].toNat = 10) := by
            rw [Option.some.injEq, ← UInt8.toNat_inj]; rfl
          rw [h10]
          simp only [h11]
          by_cases h : s[k].toNat = 10 <;> simp [h]
        have Hv := Lib.hid hv; have Hd := Lib.hid hd; have H1 := Lib.hid h1; have Hcb := Lib.hid hcb; have Hnb := Lib.hid hnb; have Hstep := Lib.hid hstep
        clear hs hlen hm h2 hv hd h1 hb1 hcb hnb hstep
        go_enter Tryz.func3, Tryz.ntmps3
        go_wp2_with (first
          | (go_at_call 12; refine (Haw.out).mono ?_; rintro e w' ⟨rfl, hf⟩)
          | (go_at_call 13; refine (Hsh.out _).mono ?_; rintro e w'' ⟨rfl, rfl⟩; rw [Hb.out])
          | (go_at_call 14; refine (Hct.out _).mono ?_; rintro e w'' ⟨rfl, rfl⟩; rw [H1.out])
          | (go_at_call 15; refine (Hrc.out _).mono ?_; rintro e w'' ⟨rfl, rfl⟩; rw [H1.out])
          | (go_at_call 16; refine (Hpl.out _).mono ?_; rintro e w'' ⟨rfl, rfl⟩; rw [Hv.out])
          | (go_at_call 17; refine (within_any _ _ _ _).mono ?_; rintro e w'' ⟨rfl, rfl⟩; rw [Hd.out]))
        go_loop [12, 13, 14] (fun o r i => ∃ k : Nat, k ≤ n ∧ o = .int .i64 (1 + ((l.take k).count 10 : Nat)) ∧ r = .int .i64 (1 + nlBefore l k) ∧ i = .int .i64 k) (fun o r i => n - (intOf i).toNat)
        case atStart => exact ⟨0, by omega, by simp, by rw [nlBefore]; rfl, rfl⟩
        case round =>
          obtain ⟨k, hk, rfl, rfl, rfl⟩ := hrel
          have hb1 := Hcb.out k
          have hb2 := Hnb.out k
          rcases Nat.lt_or_ge k n with hkn | hkn
          · have hks : k < s.size := by omega
            obtain ⟨e1, e2⟩ := Hstep.out k hks
            by_cases h10 : s[k].toNat = 10
            · have hb : ((s[k].toNat : Int) == 10) = true := by rw [h10]; rfl
              rw [if_pos h10] at e1 e2
              have E1 := Lib.hid e1; have E2 := Lib.hid e2; clear e1 e2 h10
              go_wp2_with fail
              go_round
              case rel => exact ⟨k + 1, by omega, by rw [E1.out]; go_num, by rw [E2.out]; go_num, by go_num⟩
              case measure => simp [intOf] <;> omega
            · have hb : ((s[k].toNat : Int) == 10) = false := by simp; omega
              rw [if_neg h10] at e1 e2
              have E1 := Lib.hid e1; have E2 := Lib.hid e2; clear e1 e2 h10
              go_wp2_with fail
              go_round
              case rel => exact ⟨k + 1, by omega, by rw [E1.out, Nat.add_zero], by rw [E2.out], by go_num⟩
              case measure => simp [intOf] <;> omega
          · obtain rfl : k = n := by omega
            have hx : ((k : Int) - nlBefore l k == (k : Int) - (1 + nlBefore l k) + 1) = true := by simp; omega
            go_wp2_with fail
            go_ret
            exact ⟨rfl, hf⟩
    · have hb1 : ((checkText l).2 == 0) = false := by simpa using h1
      have hv : placeOf l p = (0, 0, (checkText l).2) := by unfold placeOf; rw [if_pos h1]
      have Hv := Lib.hid hv; have Hd : Hid True := trivial
      clear hs hlen hm hv h1
      go_enter Tryz.func3, Tryz.ntmps3
      go_wp2_with (first
          | (go_at_call 12; refine (Haw.out).mono ?_; rintro e w' ⟨rfl, hf⟩)
          | (go_at_call 13; refine (Hsh.out _).mono ?_; rintro e w'' ⟨rfl, rfl⟩; rw [Hb.out])
          | (go_at_call 14; refine (Hct.out _).mono ?_; rintro e w'' ⟨rfl, rfl⟩)
          | (go_at_call 15; refine (Hrc.out _).mono ?_; rintro e w'' ⟨rfl, rfl⟩)
          | (go_at_call 16; refine (Hpl.out _).mono ?_; rintro e w'' ⟨rfl, rfl⟩; rw [Hv.out])
          | (go_at_call 17; refine (within_any _ _ _ _).mono ?_; rintro e w'' ⟨rfl, rfl⟩))
      go_ret
      exact ⟨rfl, hf⟩
end Go.Proofs.YtnocfgnkcjklkaaGreatDoor
