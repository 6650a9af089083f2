/- The contract on numbers: digits, without superfluous zeros, not above the limit. -/
import Derived.Test.YtfmpcchlpplanaaGreatDoorListed
import Derived.Test.YtfmpcchlpplanaaGreatDoorNum
namespace Go.Proofs.YtfmpcchlpplanaaGreatDoor
open Go.RowKit

def big63 : Nat := 9223372036854775808
theorem parse_ok (s : ByteArray) (l : List UInt8) (hs : s.data.toList = l) (hne : l ≠ []) (hd : ∀ c ∈ l, isDigit c = true) (v : Nat) (hv : Hid (decVal l = v)) (hb : v < big63) (hm : s.size ≤ 10000) (w : World) :
    Calls Tryz.prog 91 #[.string s, .int .i64 10, .int .i64 64] w fun e w' => e = .returned (.tuple #[.int .i64 (v : Int), .nilIface]) ∧ Fr w.heap.size w w' := by
  have hp : Lib.parseIntB 64 s.data.toList = .ok (v : Int) := by rw [hs, parse_dec l hne hd, hv.out]; exact if_pos hb
  refine (Tryz.strconv_ParseInt_10_at64_ok s (by omega) v hp w).mono fun e w' ⟨he, hw⟩ => ⟨he, Nat.le_refl _, ?_⟩
  rcases hw with rfl | ⟨t, rfl⟩
  · exact Below.refl _ _
  · exact ⟨rfl, rfl, rfl, by rw [Lib.bytesWorld_size]; omega, fun j hj => Lib.bytesWorld_at_old w _ t j hj⟩
theorem parse_range (s : ByteArray) (l : List UInt8) (hs : s.data.toList = l) (hne : l ≠ []) (hd : ∀ c ∈ l, isDigit c = true) (hb : ¬ decVal l < big63) (hm : s.size ≤ 10000) (w : World) (hg : Hid (Glob w)) :
    Calls Tryz.prog 91 #[.string s, .int .i64 10, .int .i64 64] w fun e w' => (∃ x N, e = .returned (.tuple #[.int .i64 x, .iface 149 (.pointer (some ⟨N, 0, none⟩))])) ∧ Fr w.heap.size w w' := by
  have hp : Lib.parseIntB 64 s.data.toList = .range := by rw [hs, parse_dec l hne hd]; exact if_neg hb
  obtain ⟨-, ⟨ev, hev, hev'⟩, -⟩ := hg.out
  exact (Tryz.strconv_ParseInt_10_at64_range s (by omega) hp ev w hev hev').mono fun e w' ⟨N, he, _, _, hw⟩ => ⟨⟨_, N, he⟩, Nat.le_refl _, hw⟩

theorem numberPiece_any (s : ByteArray) (c : UInt8) (t : List UInt8) (hs : s.data.toList = c :: t) (hc : isDigit c = true) (w : World) (hm : s.size ≤ 10000) (hg : Hid (Glob w)) :
    Calls Tryz.prog 67 #[.string s] w fun e w' => e = .returned (.tuple #[.int .i64 (numberPiece (c :: t)).kind, .int .i64 (numberPiece (c :: t)).len, .int .i64 (numberPiece (c :: t)).err]) ∧ Fr w.heap.size w w' := by
  have hf := Fr.self w
  have hle := numLen_le (c :: t) (by simp)
  have hdig := numLen_digits (d := c) (t := t) hc
  obtain ⟨h0, hc0, -⟩ := ba_at hs 0 (c := c) (t := t) rfl
  have hhead : (c :: t).head? = some c := rfl
  have hnn : (c :: t).take (numLen (c :: t)) ≠ [] := by unfold numLen; simp
  generalize hl : c :: t = l at *
  rw [← ba_len hs] at hle
  have Hl := Lib.hid hl; have Hs := Lib.hid hs; have Hc0 := Lib.hid hc0; have Hhead := Lib.hid hhead; have Hnn := Lib.hid hnn; have Hdig := Lib.hid hdig; have Hc := Lib.hid hc
  clear hl hs hc0 hhead hnn hdig hc
  go_enter Tryz.func67, Tryz.ntmps67
  go_wp2
  go_loop [5] (fun i => ∃ k : Nat, 1 ≤ k ∧ k ≤ s.size ∧ i = .int .i64 k ∧ Hid (numLen l = numTail (l.drop k) + k)) (fun i => s.size - (intOf i).toNat)
  case atStart => exact ⟨1, by omega, by omega, rfl, rfl⟩
  case round =>
    obtain ⟨k, hk1, hk, rfl, HR⟩ := hrel
    have hcase : (∃ x r, l.drop k = x :: r ∧ isDigit x = true) ∨ (l.drop k = [] ∧ s.size ≤ k) ∨ (∃ x r, l.drop k = x :: r ∧ isDigit x = false) := by
      rcases hd : l.drop k with _ | ⟨x, r⟩
      · exact .inr (.inl ⟨rfl, ba_end Hs.out k hd⟩)
      · cases hx : isDigit x
        · exact .inr (.inr ⟨x, r, rfl, hx⟩)
        · exact .inl ⟨x, r, rfl, hx⟩
    rcases hcase with ⟨x, r, hd, hx⟩ | hcase
    · obtain ⟨hlt, hxx, ht⟩ := ba_at Hs.out k hd
      have hdx : isDigit s[k] = true := by rw [hxx]; exact hx
      have Hd := Lib.hid hd; have Ht := Lib.hid ht; have Hx := Lib.hid hx; clear hd ht hx hxx
      go_wp2_with (go_at_call 66; refine (isDigit_any _ _).mono ?_; rintro e w' ⟨rfl, rfl⟩)
      go_round
      case rel => exact ⟨k + 1, by omega, by omega, by go_num, by unfold Hid; rw [HR.out, Hd.out, Ht.out, numTail, if_pos Hx.out]; omega⟩
      case measure => simp [intOf]; omega
    · have hkn : numLen l = k := by
        rw [HR.out]
        rcases hcase with ⟨h, _⟩ | ⟨x, r, h, hx⟩
        · rw [h]; simp [numTail]
        · rw [h, numTail, if_neg (by rw [hx]; decide)]; simp
      have hcase' : s.size ≤ k ∨ ∃ h : k < s.size, isDigit s[k] = false := by
        rcases hcase with ⟨_, h⟩ | ⟨x, r, h, hx⟩
        · exact .inl h
        · obtain ⟨hlt, hxx, _⟩ := ba_at Hs.out k h
          exact .inr ⟨hlt, by rw [hxx]; exact hx⟩
      have Hkn := Lib.hid hkn; clear hkn hcase HR
      have hlen : (l.take k).length = k := by rw [List.length_take, ← ba_len Hs.out]; omega
      have hx : (s.extract 0 k).size ≤ 10000 := by rw [ba_size, ba_take Hs.out, hlen]; omega
      clear hlen
      obtain ⟨v, hv⟩ : ∃ v, decVal (l.take k) = v := ⟨_, rfl⟩
      have Hv := Lib.hid hv; clear hv
      have Hn1 : Hid (l.take k ≠ []) := by unfold Hid; rw [← Hkn.out]; exact Hnn.out
      have Hn2 : Hid (∀ c ∈ l.take k, isDigit c = true) := by unfold Hid; rw [← Hkn.out]; exact Hdig.out
      have hfin : (numberPiece l = ⟨0, 0, 8⟩ ∧ c.toNat = 48 ∧ 1 < k) ∨ (numberPiece l = ⟨0, 0, 3⟩ ∧ ¬ (c.toNat = 48 ∧ 1 < k) ∧ maxInteger < v) ∨ (numberPiece l = ⟨2, k, 0⟩ ∧ ¬ (c.toNat = 48 ∧ 1 < k) ∧ ¬ maxInteger < v) := by
        have he : (l.head? = some 48 ∧ 1 < numLen l) ↔ (c.toNat = 48 ∧ 1 < k) := by
          rw [Hhead.out, Hkn.out]; simp [← UInt8.toNat_inj]
        unfold numberPiece
        by_cases h1 : c.toNat = 48 ∧ 1 < k
        · exact .inl ⟨by rw [if_pos (he.2 h1)], h1⟩
        · rw [if_neg (fun h => h1 (he.1 h)), Hkn.out, Hv.out]
          by_cases h2 : maxInteger < v
          · exact .inr (.inl ⟨by rw [if_pos h2], h1, h2⟩)
          · exact .inr (.inr ⟨by rw [if_neg h2], h1, h2⟩)
      rcases hfin with ⟨hfin, h48, hk2⟩ | ⟨hfin, hz0, hmx⟩ | ⟨hfin, hz0, hmx⟩
      · have Hfin := Lib.hid hfin; clear hfin
        have hz : ((s[0].toNat : Int) == 48) = true := by rw [Hc0.out, h48]; rfl
        clear h48
        rcases hcase' with hge | ⟨hlt, hdf⟩
        all_goals
          go_wp2_with (first | (go_at_call 66; refine (isDigit_any _ _).mono ?_; rintro e w' ⟨rfl, rfl⟩))
          go_ret3
          refine ⟨by rw [Hfin.out]; rfl, by assumption⟩
      · have Hfin := Lib.hid hfin; clear hfin
        have hz : (((s[0].toNat : Int) == 48) = true ∧ k ≤ 1) ∨ ((s[0].toNat : Int) == 48) = false := by
          rw [Hc0.out]
          by_cases h48 : c.toNat = 48
          · exact .inl ⟨by rw [h48]; rfl, by omega⟩
          · exact .inr (by simp; omega)
        clear hz0
        by_cases h63 : v < big63
        · have hb : decide ((1152921504606846976 : Int) < (v : Int)) = true := by unfold maxInteger at hmx; simp; omega
          clear hmx
          rcases hcase' with hge | ⟨hlt, hdf⟩ <;> rcases hz with ⟨hz, hk3⟩ | hz
          all_goals
            go_wp2_with (first | (go_at_call 66; refine (isDigit_any _ _).mono ?_; rintro e w' ⟨rfl, rfl⟩) | (go_at_call 91; refine (parse_ok _ _ (ba_take Hs.out k) Hn1.out Hn2.out v Hv h63 hx _).mono ?_; rintro e w' ⟨rfl, hf⟩))
            go_ret3
            refine ⟨by rw [Hfin.out]; rfl, by assumption⟩
        · clear hmx
          rw [← Hv.out] at h63
          rcases hcase' with hge | ⟨hlt, hdf⟩ <;> rcases hz with ⟨hz, hk3⟩ | hz
          all_goals
            go_wp2_with (first | (go_at_call 66; refine (isDigit_any _ _).mono ?_; rintro e w' ⟨rfl, rfl⟩) | (go_at_call 91; refine (parse_range _ _ (ba_take Hs.out k) Hn1.out Hn2.out h63 hx _ hg).mono ?_; rintro e w' ⟨⟨x, N, rfl⟩, hf⟩))
            go_ret3
            refine ⟨by rw [Hfin.out]; rfl, by assumption⟩
      · have Hfin := Lib.hid hfin; clear hfin
        have hz : (((s[0].toNat : Int) == 48) = true ∧ k ≤ 1) ∨ ((s[0].toNat : Int) == 48) = false := by
          rw [Hc0.out]
          by_cases h48 : c.toNat = 48
          · exact .inl ⟨by rw [h48]; rfl, by omega⟩
          · exact .inr (by simp; omega)
        have h63 : v < big63 := by unfold maxInteger at hmx; unfold big63; omega
        have hb : decide ((1152921504606846976 : Int) < (v : Int)) = false := by unfold maxInteger at hmx; simp; omega
        clear hmx hz0
        rcases hcase' with hge | ⟨hlt, hdf⟩ <;> rcases hz with ⟨hz, hk3⟩ | hz
        all_goals
          go_wp2_with (first | (go_at_call 66; refine (isDigit_any _ _).mono ?_; rintro e w' ⟨rfl, rfl⟩) | (go_at_call 91; refine (parse_ok _ _ (ba_take Hs.out k) Hn1.out Hn2.out v Hv h63 hx _).mono ?_; rintro e w' ⟨rfl, hf⟩))
          go_ret3
          refine ⟨by rw [Hfin.out]; rfl, by assumption⟩
end Go.Proofs.YtfmpcchlpplanaaGreatDoor
