/- Contracts on strings between quotation marks: where the closing mark stands, and the piece that begins with a quotation mark. -/
import Derived.Test.YtfmpcchlpplanaaGreatDoorChars
namespace Go.Proofs.YtfmpcchlpplanaaGreatDoor
open Go.RowKit

/-- What closingMark returns. -/
def closeRes : Option Nat → Value
  | some n => .tuple #[.int .i64 n, .bool true]
  | none => .tuple #[.int .i64 0, .bool false]
theorem closingMark_any (s : ByteArray) (l : List UInt8) (hs : s.data.toList = l) (m : Int) (h0 : 0 ≤ m) (h1 : m ≤ 255) (w : World) (hm : s.size ≤ 10000) :
    Calls Tryz.prog 92 #[.string s, .int .u8 m] w fun e w' => e = .returned (closeRes (closeAt m.toNat l)) ∧ w = w' := by
  have Hs := Lib.hid hs; clear hs
  go_enter Tryz.func92, Tryz.ntmps92
  go_wp2
  go_loop [9] (fun i => ∃ k : Nat, k ≤ s.size ∧ i = .int .i64 k ∧ Hid (closeAt m.toNat l = (closeAt m.toNat (l.drop k)).map (· + k))) (fun i => s.size - (intOf i).toNat)
  case atStart => exact ⟨0, by omega, rfl, by unfold Hid; simp⟩
  case round =>
    obtain ⟨k, hk, rfl, HR⟩ := hrel
    rcases hd : l.drop k with _ | ⟨c, t⟩
    · have hge := ba_end Hs.out k hd
      have Hd := Lib.hid hd; clear hd
      go_wp2_with fail
      go_ret2
      exact ⟨by rw [HR.out, Hd.out]; rfl, rfl⟩
    · obtain ⟨hlt, hc, ht⟩ := ba_at Hs.out k hd
      have Hd := Lib.hid hd; have Ht := Lib.hid ht; have Hc := Lib.hid hc; clear hd ht hc
      by_cases hcm : (s[k].toNat : Int) = m
      · have Hcm := Lib.hid hcm
        have hb : ((s[k].toNat : Int) == m) = true := by simpa using hcm
        clear hcm
        go_wp2_with fail
        go_ret2
        exact ⟨by rw [HR.out, Hd.out, closeAt, if_pos (by have := Hcm.out; rw [Hc.out] at this; omega)]; simp [closeRes], rfl⟩
      · have Hcm := Lib.hid hcm
        have hb : ((s[k].toNat : Int) == m) = false := by simpa using hcm
        clear hcm
        by_cases hn : s[k].toNat = 10 ∨ s[k].toNat = 9
        · have Hn := Lib.hid hn
          rcases hn with hn | hn
          · have hb1 : ((s[k].toNat : Int) == 10) = true := by simp; omega
            clear hn
            go_wp2_with fail
            go_ret2
            exact ⟨by rw [HR.out, Hd.out, closeAt, if_neg (by have := Hcm.out; rw [Hc.out] at this; omega), if_pos (by have := Hn.out; rw [Hc.out] at this; exact this)]; rfl, rfl⟩
          · have hb1 : ((s[k].toNat : Int) == 10) = false := by simp; omega
            have hb2 : ((s[k].toNat : Int) == 9) = true := by simp; omega
            clear hn
            go_wp2_with fail
            go_ret2
            exact ⟨by rw [HR.out, Hd.out, closeAt, if_neg (by have := Hcm.out; rw [Hc.out] at this; omega), if_pos (by have := Hn.out; rw [Hc.out] at this; exact this)]; rfl, rfl⟩
        · have Hn := Lib.hid hn
          have hb1 : ((s[k].toNat : Int) == 10) = false := by simp; omega
          have hb2 : ((s[k].toNat : Int) == 9) = false := by simp; omega
          clear hn
          go_wp2_with fail
          go_round
          case rel =>
            refine ⟨k + 1, by omega, by go_num, ?_⟩
            unfold Hid
            rw [HR.out, Hd.out, Ht.out, closeAt, if_neg (by have := Hcm.out; rw [Hc.out] at this; omega), if_neg (by have := Hn.out; rw [Hc.out] at this; exact this)]
            cases closeAt m.toNat t <;> simp
            omega
          case measure => simp [intOf]; omega

theorem closeAt_lt (m : Nat) : ∀ (l : List UInt8) (n : Nat), closeAt m l = some n → n < l.length
  | [], n, h => by simp [closeAt] at h
  | c :: t, n, h => by
    rw [closeAt] at h
    split at h
    · cases h; simp
    · split at h
      · cases h
      · cases hc : closeAt m t with
        | none => rw [hc] at h; cases h
        | some i => rw [hc] at h; cases h; have := closeAt_lt m t i hc; simp; omega
theorem charsEnd_closeAt : ∀ l : List UInt8, charsEnd l = match closeAt 34 l with
    | none => none
    | some n => if (l.drop (n + 1)).head? = some 34 then (charsEnd (l.drop (n + 2))).map (· + (n + 2)) else some (n + 1)
  | [] => rfl
  | [c] => by
    rw [charsEnd, closeAt]
    by_cases h : c.toNat = 34
    · simp [h]
    · rw [if_neg h, if_neg h]
      by_cases h2 : c.toNat = 10 ∨ c.toNat = 9
      · rw [if_pos h2]
      · rw [if_neg h2]; rfl
  | c :: d :: t => by
    rw [charsEnd, closeAt]
    by_cases h : c.toNat = 34
    · rw [if_pos h, if_pos h]
      by_cases hd : d.toNat = 34
      · have : d = 34 := UInt8.toNat_inj.1 hd
        subst this; simp
      · have : d ≠ 34 := fun e => hd (by rw [e]; rfl)
        rw [if_neg hd]; simp [this]
    · rw [if_neg h, if_neg h]
      by_cases h2 : c.toNat = 10 ∨ c.toNat = 9
      · rw [if_pos h2, if_pos h2]
      · rw [if_neg h2, if_neg h2, charsEnd_closeAt (d :: t)]
        cases closeAt 34 (d :: t) with
        | none => rfl
        | some n =>
          simp only [Option.map_some, List.drop_succ_cons]
          split
          · simp [Option.map_map]; congr 1
          · rfl

theorem closingMark_some (s : ByteArray) (l : List UInt8) (hs : s.data.toList = l) (m : Int) (h0 : 0 ≤ m) (h1 : m ≤ 255) (n : Nat) (h : closeAt m.toNat l = some n) (w : World) (hm : s.size ≤ 10000) :
    Calls Tryz.prog 92 #[.string s, .int .u8 m] w fun e w' => e = .returned (.tuple #[.int .i64 n, .bool true]) ∧ w = w' :=
  (closingMark_any s l hs m h0 h1 w hm).mono fun _ _ ⟨he, hw⟩ => ⟨by rw [he, h]; rfl, hw⟩
theorem closingMark_none (s : ByteArray) (l : List UInt8) (hs : s.data.toList = l) (m : Int) (h0 : 0 ≤ m) (h1 : m ≤ 255) (h : closeAt m.toNat l = none) (w : World) (hm : s.size ≤ 10000) :
    Calls Tryz.prog 92 #[.string s, .int .u8 m] w fun e w' => e = .returned (.tuple #[.int .i64 0, .bool false]) ∧ w = w' :=
  (closingMark_any s l hs m h0 h1 w hm).mono fun _ _ ⟨he, hw⟩ => ⟨by rw [he, h]; rfl, hw⟩

theorem charsPiece_any (s : ByteArray) (l : List UInt8) (hs : s.data.toList = l) (w : World) (hm : s.size ≤ 10000) (h0 : 0 < s.size) :
    Calls Tryz.prog 68 #[.string s] w fun e w' => e = .returned (.tuple #[.int .i64 (charsPiece l).kind, .int .i64 (charsPiece l).len, .int .i64 (charsPiece l).err]) ∧ w = w' := by
  have Hs := Lib.hid hs; clear hs
  go_enter Tryz.func68, Tryz.ntmps68
  go_wp2
  go_loop [5] (fun i => ∃ k : Nat, 1 ≤ k ∧ k ≤ s.size ∧ i = .int .i64 k ∧ Hid (charsEnd (l.drop 1) = (charsEnd (l.drop k)).map (· + (k - 1)))) (fun i => s.size - (intOf i).toNat)
  case atStart => exact ⟨1, by omega, by omega, rfl, by unfold Hid; simp⟩
  case round =>
    obtain ⟨k, hk1, hk, rfl, HR⟩ := hrel
    have hx : (s.extract k s.size).size ≤ 10000 := by rw [ba_size, ba_drop Hs.out, List.length_drop]; have := ba_len Hs.out; omega
    rcases hcl : closeAt 34 (l.drop k) with _ | n
    · have Hcl := Lib.hid hcl; clear hcl
      go_wp2_with (go_at_call 92; refine (closingMark_none _ _ (ba_drop Hs.out k) 34 (by decide) (by decide) Hcl.out _ hx).mono ?_; rintro e w' ⟨rfl, rfl⟩)
      go_ret3
      refine ⟨?_, rfl⟩
      rw [charsPiece, HR.out, charsEnd_closeAt, Hcl.out]; rfl
    · have hn := closeAt_lt _ _ _ hcl
      rw [List.length_drop, ← ba_len Hs.out] at hn
      have Hcl := Lib.hid hcl; clear hcl
      have hce : charsEnd (l.drop k) = if (l.drop (k + (n + 1))).head? = some 34 then (charsEnd (l.drop (k + (n + 2)))).map (· + (n + 2)) else some (n + 1) := by
        rw [charsEnd_closeAt, Hcl.out]; simp only [List.drop_drop]
      rcases hd : l.drop (k + (n + 1)) with _ | ⟨c, t⟩
      · have hge := ba_end Hs.out _ hd
        rw [hd] at hce
        have Hce := Lib.hid hce; clear hce hd
        have hb1 : ((k : Int) + ((n : Int) + 1) == (s.size : Int)) = true := by simp; omega
        have Hsz : Hid (s.size = k + n + 1) := by unfold Hid; omega
        by_cases hbig : 201 < n + 1 + (k - 1)
        all_goals
          go_wp2_with (go_at_call 92; refine (closingMark_some _ _ (ba_drop Hs.out k) 34 (by decide) (by decide) n Hcl.out _ hx).mono ?_; rintro e w' ⟨rfl, rfl⟩)
          go_ret3
          refine ⟨?_, rfl⟩
          rw [charsPiece, HR.out, Hce.out]
          simp [hbig]
        omega
      · obtain ⟨hlt, hc, ht⟩ := ba_at Hs.out _ hd
        have hb1 : ((k : Int) + ((n : Int) + 1) == (s.size : Int)) = false := by simp; omega
        by_cases hq : c.toNat = 34
        · have hq' : c = 34 := UInt8.toNat_inj.1 hq
          rw [hd, if_pos (by rw [hq']; rfl)] at hce
          have hb2 : ((s[k + (n + 1)].toNat : Int) != 34) = false := by rw [hc, hq']; rfl
          have Hce := Lib.hid hce; clear hce hd hc hq hq'
          go_wp2_with (go_at_call 92; refine (closingMark_some _ _ (ba_drop Hs.out k) 34 (by decide) (by decide) n Hcl.out _ hx).mono ?_; rintro e w' ⟨rfl, rfl⟩)
          go_round
          case rel =>
            refine ⟨k + (n + 2), by omega, by omega, by go_num, ?_⟩
            unfold Hid
            rw [HR.out, Hce.out, Option.map_map]
            congr 1
            funext x; simp; omega
          case measure => simp [intOf]; omega
        · have hq' : ¬ c = 34 := fun e => hq (by rw [e]; rfl)
          rw [hd, if_neg (by simpa using hq')] at hce
          have hb2 : ((s[k + (n + 1)].toNat : Int) != 34) = true := by rw [hc]; simp; omega
          have Hce := Lib.hid hce; clear hce hd hc hq hq'
          by_cases hbig : 201 < n + 1 + (k - 1)
          all_goals
            go_wp2_with (go_at_call 92; refine (closingMark_some _ _ (ba_drop Hs.out k) 34 (by decide) (by decide) n Hcl.out _ hx).mono ?_; rintro e w' ⟨rfl, rfl⟩)
            go_ret3
            refine ⟨?_, rfl⟩
            rw [charsPiece, HR.out, Hce.out]
            simp [hbig]
          omega
end Go.Proofs.YtfmpcchlpplanaaGreatDoor
