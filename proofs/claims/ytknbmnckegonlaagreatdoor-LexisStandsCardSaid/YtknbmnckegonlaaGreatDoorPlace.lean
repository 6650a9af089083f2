/- Contracts on the line and the column of a place, on the reference of right texts and on what bounds a text. -/
import Derived.Test.YtknbmnckegonlaaGreatDoorText
namespace Go.Proofs.YtknbmnckegonlaaGreatDoor
open Go.RowKit

theorem within_any (n a b : Int) (w : World) :
    Calls Tryz.prog 17 #[.int .i64 n, .int .i64 a, .int .i64 b] w fun e w' => e = .returned (.bool (decide (a ≤ n ∧ n ≤ b))) ∧ w = w' := by
  go_enter Tryz.func17, Tryz.ntmps17
  go_wp2
  all_goals (go_ret; exact ⟨ret_bool (by rw [Bool.eq_iff_iff]; simp; try omega), rfl⟩)
theorem count_any (b : Bool) (w : World) :
    Calls Tryz.prog 39 #[.bool b] w fun e w' => e = .returned (.int .i64 (if b = true then 1 else 0)) ∧ w = w' := by
  cases b
  · go_enter Tryz.func39, Tryz.ntmps39
    go_wp2
    go_ret
    exact ⟨rfl, rfl⟩
  · go_enter Tryz.func39, Tryz.ntmps39
    go_wp2
    go_ret
    exact ⟨rfl, rfl⟩
/-- Is a text as long as the laws want it? -/
def isShort (n : Nat) : Bool := decide (n ≤ 400 ∨ 8000 < n ∧ n < 8050)
theorem short_any (s : ByteArray) (w : World) (hm : s.size ≤ maxLen) :
    Calls Tryz.prog 13 #[.string s] w fun e w' => e = .returned (.bool (isShort s.size)) ∧ w = w' := by
  unfold maxLen at hm
  go_enter Tryz.func13, Tryz.ntmps13
  go_wp2
  all_goals (go_ret; exact ⟨ret_bool (by unfold isShort; rw [Bool.eq_iff_iff]; simp; try omega), rfl⟩)

/-- The last line feed before a place, or -1. -/
def nlBefore (l : List UInt8) : Nat → Int
  | 0 => -1
  | k + 1 => if l[k]? = some 10 then (k : Int) else nlBefore l k
theorem nlBefore_bounds (l : List UInt8) : ∀ k, -1 ≤ nlBefore l k ∧ nlBefore l k < k
  | 0 => by rw [nlBefore]; omega
  | k + 1 => by
    have := nlBefore_bounds l k
    rw [nlBefore]
    split <;> omega
theorem nlBefore_take (l : List UInt8) (a : Nat) : ∀ k, k ≤ a → nlBefore (l.take a) k = nlBefore l k
  | 0, _ => rfl
  | k + 1, h => by
    rw [nlBefore, nlBefore, nlBefore_take l a k (by omega), List.getElem?_take_of_lt (by omega)]
theorem nlBefore_lib {s : ByteArray} {l : List UInt8} (hs : s.data.toList = l) : ∀ k, k ≤ s.size → Lib.lastIdx s 10 k = nlBefore l k
  | 0, _ => rfl
  | k + 1, h => by
    have hk : k < l.length := by rw [← ba_len hs]; omega
    have hks : k < s.data.size := h
    have e : s.data[k]! = l[k] := by
      subst hs
      rw [getElem!_pos s.data k hks]; simp
    rw [Lib.lastIdx, nlBefore, nlBefore_lib hs k (by omega), e, List.getElem?_eq_getElem hk]
    have : (((l[k]).toNat : Int) = 10) ↔ (some l[k] = some (10 : UInt8)) := by
      rw [Option.some.injEq, ← UInt8.toNat_inj]
      constructor
      · intro h; have : l[k].toNat = 10 := by omega
        rw [this]; rfl
      · intro h; rw [h]; rfl
    simp only [this]

theorem rCheck_any (s : ByteArray) (l : List UInt8) (hs : s.data.toList = l) (w : World) (hm : s.size ≤ maxLen) :
    Calls Tryz.prog 15 #[.string s] w fun e w' => e = .returned (.tuple #[.int .i64 (checkText l).1, .int .i64 (checkText l).2]) ∧ w = w' := by
  unfold maxLen at hm
  have hlen := ba_len hs
  by_cases h8 : 8000 < s.size
  · have hv : checkText l = (0, 2) := by unfold checkText; rw [if_pos (by omega)]
    have Hv := Lib.hid hv; clear hv hs hlen
    go_enter Tryz.func15, Tryz.ntmps15
    go_wp2_with fail
    go_ret2
    exact ⟨by rw [Hv.out]; rfl, rfl⟩
  · have hv : checkText l = match badAt l with
      | some i => ((i : Int), 5)
      | none => (1 + (l.count 10 : Nat), 0) := by unfold checkText; rw [if_neg (by omega)]; rfl
    have hcnt : ∀ k, (l.take k).count 10 ≤ 8000 := fun k => by
      have := List.count_le_length (a := (10 : UInt8)) (l := l.take k)
      rw [List.length_take] at this; omega
    have Hv := Lib.hid hv; have Hs := Lib.hid hs; have Hcnt := Lib.hid hcnt; clear hv hs hlen hcnt
    go_enter Tryz.func15, Tryz.ntmps15
    go_wp2_with fail
    go_loop [4, 5] (fun n i => ∃ k : Nat, k ≤ s.size ∧ n = .int .i64 (1 + ((l.take k).count 10 : Nat)) ∧ i = .int .i64 k ∧ Hid (badAt l = (badAt (l.drop k)).map (· + k))) (fun n i => s.size - (intOf i).toNat)
    case atStart => exact ⟨0, by omega, by simp, rfl, by unfold Hid; simp⟩
    case round =>
      obtain ⟨k, hk, rfl, rfl, HR⟩ := hrel
      have hck := Hcnt.out k
      rcases hd : l.drop k with _ | ⟨c, t⟩
      · have hge := ba_end Hs.out k hd
        have Htk : Hid (l.take k = l) := by unfold Hid; rw [List.take_of_length_le]; rw [← ba_len Hs.out]; exact hge
        have Hd := Lib.hid hd; clear hd
        go_wp2_with fail
        go_ret2
        exact ⟨by rw [Hv.out, HR.out, Hd.out, Htk.out]; rfl, rfl⟩
      · obtain ⟨hlt, hc, ht⟩ := ba_at Hs.out k hd
        have htk : l.take (k + 1) = l.take k ++ [c] := by
          have hkl : k < l.length := by rw [← ba_len Hs.out]; exact hlt
          rw [List.take_succ_eq_append_getElem hkl]
          have := List.drop_eq_getElem_cons hkl
          rw [hd] at this
          injection this with h1 _
          rw [h1]
        have hcu : ((l.take (k + 1)).count 10 : Nat) = (l.take k).count 10 + (if c.toNat = 10 then 1 else 0) := by
          rw [htk, List.count_append, List.count_cons, List.count_nil]
          have h10 : (c == 10) = decide (c.toNat = 10) := by
            rw [Bool.eq_iff_iff, beq_iff_eq, decide_eq_true_eq, ← UInt8.toNat_inj]; rfl
          rw [h10]
          by_cases h : c.toNat = 10 <;> simp [h]
        have hcl : c.toNat < 256 := c.toNat_lt
        have hpm : isPermitted c = decide (c.toNat = 9 ∨ c.toNat = 10 ∨ 32 ≤ c.toNat ∧ c.toNat ≤ 126) := rfl
        have Hd := Lib.hid hd; have Ht := Lib.hid ht; clear hd ht htk
        have hsc : s[k].toNat = c.toNat := by rw [hc]
        clear hc
        by_cases h1 : c.toNat = 10
        · have hb : ((s[k].toNat : Int) != 10) = false := by rw [hsc]; simp; omega
          have hb' : ((s[k].toNat : Int) == 10) = true := by rw [hsc]; simp; omega
          have Hp : Hid (isPermitted c = true) := by unfold Hid; rw [hpm]; simp; omega
          have Hcu : Hid ((l.take (k + 1)).count 10 = (l.take k).count 10 + 1) := by unfold Hid; rw [hcu, if_pos h1]
          clear hcu hpm hcl hsc h1
          go_wp2_with (go_at_call 39; refine (count_any _ _).mono ?_; rintro e w' ⟨rfl, rfl⟩)
          go_round
          case rel =>
            refine ⟨k + 1, by omega, by rw [Hcu.out]; go_num, by go_num, ?_⟩
            unfold Hid
            rw [HR.out, Hd.out, badAt, if_pos Hp.out, Ht.out, Option.map_map]
            congr 1; funext x; simp; omega
          case measure => simp [intOf] <;> omega
        · have hb : ((s[k].toNat : Int) != 10) = true := by rw [hsc]; simp; omega
          have hb' : ((s[k].toNat : Int) == 10) = false := by rw [hsc]; simp; omega
          have Hcu : Hid ((l.take (k + 1)).count 10 = (l.take k).count 10) := by unfold Hid; rw [hcu, if_neg h1]; rfl
          by_cases h2 : c.toNat = 9
          · have hb2 : ((s[k].toNat : Int) != 9) = false := by rw [hsc]; simp; omega
            have Hp : Hid (isPermitted c = true) := by unfold Hid; rw [hpm]; simp; omega
            clear hcu hpm hcl hsc h1 h2
            go_wp2_with (go_at_call 39; refine (count_any _ _).mono ?_; rintro e w' ⟨rfl, rfl⟩)
            go_round
            case rel =>
              refine ⟨k + 1, by omega, by rw [Hcu.out], by go_num, ?_⟩
              unfold Hid
              rw [HR.out, Hd.out, badAt, if_pos Hp.out, Ht.out, Option.map_map]
              congr 1; funext x; simp; omega
            case measure => simp [intOf] <;> omega
          · have hb2 : ((s[k].toNat : Int) != 9) = true := by rw [hsc]; simp; omega
            have hwr : IntKind.i64.wrap (s[k].toNat : Int) = (s[k].toNat : Int) := IntWalk.i64_in _ (by rw [hsc]; omega)
            by_cases h3 : 32 ≤ c.toNat ∧ c.toNat ≤ 126
            · have hb3 : decide ((32 : Int) ≤ (s[k].toNat : Int) ∧ (s[k].toNat : Int) ≤ 126) = true := by rw [hsc]; simp; omega
              have Hp : Hid (isPermitted c = true) := by unfold Hid; rw [hpm]; simp; omega
              clear hcu hpm hcl hsc h1 h2 h3
              go_wp2_with (first
                | (go_at_call 17; refine (within_any _ _ _ _).mono ?_; rintro e w' ⟨rfl, rfl⟩)
                | (go_at_call 39; refine (count_any _ _).mono ?_; rintro e w' ⟨rfl, rfl⟩))
              go_round
              case rel =>
                refine ⟨k + 1, by omega, by rw [Hcu.out], by go_num, ?_⟩
                unfold Hid
                rw [HR.out, Hd.out, badAt, if_pos Hp.out, Ht.out, Option.map_map]
                congr 1; funext x; simp; omega
              case measure => simp [intOf] <;> omega
            · have hb3 : decide ((32 : Int) ≤ (s[k].toNat : Int) ∧ (s[k].toNat : Int) ≤ 126) = false := by rw [hsc]; simp; omega
              have Hp : Hid (isPermitted c = false) := by unfold Hid; rw [hpm]; simp; omega
              clear hcu hpm hcl hsc h1 h2 h3
              go_wp2_with (go_at_call 17; refine (within_any _ _ _ _).mono ?_; rintro e w' ⟨rfl, rfl⟩)
              go_ret2
              exact ⟨by rw [Hv.out, HR.out, Hd.out, badAt, if_neg (by rw [Hp.out]; decide)]; simp, rfl⟩

/-- What PlaceOf returns. -/
def placeOf (l : List UInt8) (p : Int) : Int × Int × Int :=
  if (checkText l).2 ≠ 0 then (0, 0, (checkText l).2)
  else if p < 0 ∨ (l.length : Int) < p then (0, 0, 3)
  else ((1 + ((l.take p.toNat).count 10 : Nat) : Int), p - nlBefore l p.toNat, 0)
theorem checkText_range (l : List UInt8) (n : Nat) (h : l.length ≤ n) : 0 ≤ (checkText l).1 ∧ (checkText l).1 ≤ n + 1 ∧ 0 ≤ (checkText l).2 ∧ (checkText l).2 ≤ 5 := by
  unfold checkText
  split
  · simp; omega
  · cases hb : badAt l with
    | none => have := List.count_le_length (a := (10 : UInt8)) (l := l); simp; omega
    | some i => have := badAt_lt l i hb; simp; omega
set_option maxRecDepth 100000 in
theorem placeOf_any (s : ByteArray) (l : List UInt8) (hs : s.data.toList = l) (p : Int) (hp : p < 9223372036854775808) (w : World) (hm : s.size ≤ maxLen) :
    Calls Tryz.prog 16 #[.string s, .int .i64 p] w fun e w' => e = .returned (.tuple #[.int .i64 (placeOf l p).1, .int .i64 (placeOf l p).2.1, .int .i64 (placeOf l p).2.2]) ∧ w = w' := by
  have hcr := checkText_any s l hs w hm
  unfold maxLen at hm
  have hlen := ba_len hs
  by_cases h1 : (checkText l).2 = 0
  · have hb0 : ((checkText l).2 != 0) = false := by rw [h1]; rfl
    have h8 : s.size ≤ 8000 := by
      unfold checkText at h1
      by_cases h : 8000 < l.length
      · rw [if_pos h] at h1; cases h1
      · omega
    have Hcr := Lib.hid hcr
    by_cases h2 : p < 0 ∨ (s.size : Int) < p
    · have hv : placeOf l p = (0, 0, 3) := by unfold placeOf; rw [if_neg (by simpa using h1), if_pos (by omega)]
      have Hv := Lib.hid hv
      clear hv hcr h1 hs hlen
      go_enter Tryz.func16, Tryz.ntmps16
      go_wp2_with (go_at_call 14; refine (Hcr.out).mono ?_; rintro e w' ⟨rfl, rfl⟩)
      all_goals first | (exfalso; omega) | skip
      all_goals (go_ret3; exact ⟨by rw [Hv.out] <;> rfl, rfl⟩)
    · obtain ⟨n, rfl⟩ : ∃ n : Nat, p = n := ⟨p.toNat, by omega⟩
      have hn : n ≤ s.size := by omega
      have hv : placeOf l n = ((1 + ((l.take n).count 10 : Nat) : Int), (n : Int) - nlBefore l n, 0) := by
        unfold placeOf; rw [if_neg (by simpa using h1), if_neg (by omega)]; rfl
      have hc1 : Lib.countByte (s.extract 0 n).data.toList 10 = ((l.take n).count 10 : Nat) := by rw [ba_take hs]; rfl
      have hc2 : Lib.lastIndexByte (s.extract 0 n) 10 = nlBefore l n := by
        have hsz : (s.extract 0 n).size = n := by rw [ba_len (ba_take hs n), List.length_take]; omega
        rw [Lib.lastIndexByte, hsz, nlBefore_lib (ba_take hs n) n (by omega), nlBefore_take l n n (Nat.le_refl _)]
      have hcb : (l.take n).count 10 ≤ 8000 := by
        have := List.count_le_length (a := (10 : UInt8)) (l := l.take n)
        rw [List.length_take] at this; omega
      have hnb := nlBefore_bounds l n
      have hx : (s.extract 0 n).size < 4611686018427387904 := by
        have hsz : (s.extract 0 n).size = n := by rw [ba_len (ba_take hs n), List.length_take]; omega
        omega
      have h2a : 0 ≤ (n : Int) := by omega
      have h2b : (n : Int) ≤ s.size := by omega
      clear h2 hp hm
      have Hv := Lib.hid hv; have Hc1 := Lib.hid hc1; have Hc2 := Lib.hid hc2; have Hx := Lib.hid hx
      clear hv hcr h1 hs hlen hc1 hc2 hx
      go_enter Tryz.func16, Tryz.ntmps16
      go_wp2_with (first
        | (go_at_call 14; refine (Hcr.out).mono ?_; rintro e w' ⟨rfl, rfl⟩)
        | (go_at_call 38; refine (same_sym (Tryz.strings_Count_one _ 10 _)).mono ?_; rintro e w' ⟨rfl, rfl⟩; rw [Hc1.out])
        | (go_at_call 40; refine (same_sym (Tryz.strings_LastIndexByte _ 10 Hx.out _)).mono ?_; rintro e w' ⟨rfl, rfl⟩; rw [Hc2.out]))
      go_ret3
      exact ⟨by rw [Hv.out] <;> rfl, rfl⟩
  · have hb0 : ((checkText l).2 != 0) = true := by simpa using h1
    have hv : placeOf l p = (0, 0, (checkText l).2) := by unfold placeOf; rw [if_pos h1]
    have Hv := Lib.hid hv; have Hcr := Lib.hid hcr
    clear hv hcr h1 hs hlen
    go_enter Tryz.func16, Tryz.ntmps16
    go_wp2_with (go_at_call 14; refine (Hcr.out).mono ?_; rintro e w' ⟨rfl, rfl⟩)
    go_ret3
    exact ⟨by rw [Hv.out] <;> rfl, rfl⟩
end Go.Proofs.YtknbmnckegonlaaGreatDoor
