/- Contracts on comments: whether one begins a string, and how long it is. -/
import Derived.Test.YtfmpcchlpplanaaGreatDoorDigits
import Derived.Test.YtfmpcchlpplanaaGreatDoorLine
namespace Go.Proofs.YtfmpcchlpplanaaGreatDoor
open Go.RowKit

theorem lineMark_any (lang : Int) (hlang : lang = 0 ∨ lang = 1) (w : World) :
    Calls Tryz.prog 88 #[.int .i64 lang] w fun e w' => e = .returned (.string ⟨(lineMark lang).toArray⟩) ∧ w = w' := by
  rcases hlang with rfl | rfl
  all_goals
    go_enter Tryz.func88, Tryz.ntmps88
    go_wp2
    go_ret
    exact ⟨rfl, rfl⟩
theorem beginsComment_any (lang : Int) (hlang : lang = 0 ∨ lang = 1) (s : ByteArray) (l : List UInt8) (hs : s.data.toList = l) (w : World) :
    Calls Tryz.prog 63 #[.int .i64 lang, .string s] w fun e w' => e = .returned (.bool (begins lang l)) ∧ w = w' := by
  have hv : begins lang l = (preB s ⟨#[47, 42]⟩ || preB s ⟨(lineMark lang).toArray⟩) := by rw [← hs]; rfl
  have Hv := Lib.hid hv; clear hv hs
  rcases h1 : preB s ⟨#[47, 42]⟩ <;> rcases h2 : preB s ⟨(lineMark lang).toArray⟩
  all_goals
    go_enter Tryz.func63, Tryz.ntmps63
    go_wp2_with (first | (go_at_call 87; refine (hasPrefix_any _ _ _).mono ?_; rintro e w' ⟨rfl, rfl⟩) | (go_at_call 88; refine (lineMark_any _ hlang _).mono ?_; rintro e w' ⟨rfl, rfl⟩))
    go_ret
    exact ⟨ret_bool (by rw [Hv.out, h1, h2]; rfl), rfl⟩

theorem pre2 {s : ByteArray} {a b c d : UInt8} {t : List UInt8} (h : s.data.toList = c :: d :: t) : preB s ⟨#[a, b]⟩ = decide (a = c ∧ b = d) := by
  unfold preB Lib.hasPrefix; rw [h, Bool.eq_iff_iff]; simp [List.isPrefixOf]
theorem pre1 {s : ByteArray} {a b c : UInt8} (h : s.data.toList = [c]) : preB s ⟨#[a, b]⟩ = false := by
  unfold preB Lib.hasPrefix; rw [h]; simp [List.isPrefixOf]

def enclRes : Option Nat → Value
  | some n => .tuple #[.int .i64 n, .int .i64 0]
  | none => .tuple #[.int .i64 0, .int .i64 39]
theorem enclosedLength_any (nested : Bool) (s : ByteArray) (l : List UInt8) (hs : s.data.toList = l) (w : World) (hm : s.size ≤ 10000) (h2 : 2 ≤ s.size) :
    Calls Tryz.prog 89 #[.string s, .bool nested] w fun e w' => e = .returned (enclRes ((encl nested 1 (l.drop 2)).map (· + 2))) ∧ w = w' := by
  have Hs := Lib.hid hs; clear hs
  go_enter Tryz.func89, Tryz.ntmps89
  go_wp2
  go_loop [6, 7] (fun d i => ∃ k n : Nat, 2 ≤ k ∧ k ≤ s.size ∧ 1 ≤ n ∧ n ≤ k ∧ d = .int .i64 n ∧ i = .int .i64 k ∧ Hid ((encl nested 1 (l.drop 2)).map (· + 2) = (encl nested n (l.drop k)).map (· + k))) (fun _ i => s.size - (intOf i).toNat)
  case atStart => exact ⟨2, 1, by omega, by omega, by omega, by omega, rfl, rfl, rfl⟩
  case round =>
    obtain ⟨k, n, hk2, hk, hn1, hnk, rfl, rfl, HR⟩ := hrel
    have hz0 : ((n : Int) == 0) = false := by simp; omega
    have hz2 : ((n : Int) + 1 == 0) = false := by simp; omega
    rcases hd : l.drop k with _ | ⟨c, _ | ⟨e, t⟩⟩
    · have hge := ba_end Hs.out k hd
      have Hd := Lib.hid hd; clear hd
      go_wp2_with fail
      go_ret2
      exact ⟨by rw [HR.out, Hd.out, encl]; rfl, rfl⟩
    · obtain ⟨hlt, -, ht⟩ := ba_at Hs.out k hd
      have hp : ∀ a b : UInt8, preB (s.extract k s.size) ⟨#[a, b]⟩ = false := fun a b => pre1 ((ba_drop Hs.out k).trans hd)
      have p1 := hp 42 47
      have p2 := hp 47 42
      have Hd := Lib.hid hd; have Ht := Lib.hid ht; clear hd ht hp
      have hne : Hid ((encl nested 1 (l.drop 2)).map (· + 2) = (encl nested n (l.drop (k + 1))).map (· + (k + 1))) := by
        unfold Hid; rw [HR.out, Hd.out, Ht.out, encl, encl]; rfl
      rcases nested
      all_goals
        go_wp2_with (go_at_call 87; refine (hasPrefix_any _ _ _).mono ?_; rintro e w' ⟨rfl, rfl⟩)
        go_round
        case rel => exact ⟨k + 1, n, by omega, by omega, by omega, by omega, rfl, by go_num, hne⟩
        case measure => simp [intOf]; omega
    · obtain ⟨hlt, -, ht⟩ := ba_at Hs.out k hd
      obtain ⟨hlt2, -, ht2⟩ := ba_at Hs.out (k + 1) ht
      have hp := (ba_drop Hs.out k).trans hd
      have q1 : (42 = c ∧ 47 = e) ↔ (c.toNat = 42 ∧ e.toNat = 47) := by simp [← UInt8.toNat_inj, eq_comm]
      have q2 : (47 = c ∧ 42 = e) ↔ (c.toNat = 47 ∧ e.toNat = 42) := by simp [← UInt8.toNat_inj, eq_comm]
      have p1 : preB (s.extract k s.size) ⟨#[42, 47]⟩ = decide (c.toNat = 42 ∧ e.toNat = 47) := (pre2 hp).trans (decide_eq_decide.2 q1)
      have p2 : preB (s.extract k s.size) ⟨#[47, 42]⟩ = decide (c.toNat = 47 ∧ e.toNat = 42) := (pre2 hp).trans (decide_eq_decide.2 q2)
      have hee : encl nested n (c :: e :: t) = if c.toNat = 42 ∧ e.toNat = 47 then (if n ≤ 1 then some 2 else (encl nested (n - 1) t).map (· + 2))
          else if nested = true ∧ c.toNat = 47 ∧ e.toNat = 42 then (encl nested (n + 1) t).map (· + 2) else (encl nested n (e :: t)).map (· + 1) := by rw [encl]
      have Hd := Lib.hid hd; have Ht := Lib.hid ht; have Ht2 := Lib.hid ht2; clear hd ht ht2 hp
      clear q1 q2
      by_cases hA : c.toNat = 42 ∧ e.toNat = 47
      · rw [if_pos hA] at hee
        rw [decide_eq_true hA] at p1
        clear p2 hA
        by_cases hn : n ≤ 1
        · have hzz : ((n : Int) - 1 == 0) = true := by simp; omega
          rw [if_pos hn] at hee
          have Hee := Lib.hid hee; clear hee
          go_wp2_with (go_at_call 87; refine (hasPrefix_any _ _ _).mono ?_; rintro e w' ⟨rfl, rfl⟩)
          go_ret2
          refine ⟨?_, rfl⟩
          rw [HR.out, Hd.out, Hee.out]
          simp [enclRes]; omega
        · have hzz : ((n : Int) - 1 == 0) = false := by simp; omega
          rw [if_neg hn] at hee
          have Hee := Lib.hid hee; clear hee
          go_wp2_with (go_at_call 87; refine (hasPrefix_any _ _ _).mono ?_; rintro e w' ⟨rfl, rfl⟩)
          go_round
          case rel =>
            refine ⟨k + 2, n - 1, by omega, by omega, by omega, by omega, by congr 1 <;> omega, by congr 1 <;> omega, ?_⟩
            unfold Hid
            rw [HR.out, Hd.out, Hee.out, Ht2.out, Option.map_map]
            congr 1; funext x; simp; omega
          case measure => simp [intOf]; omega
      · rw [if_neg hA] at hee
        rw [decide_eq_false hA] at p1
        clear hA
        by_cases hB : nested = true ∧ c.toNat = 47 ∧ e.toNat = 42
        · rw [if_pos hB] at hee
          rw [decide_eq_true hB.2] at p2
          obtain ⟨rfl, -⟩ := hB
          have Hee := Lib.hid hee; clear hee
          go_wp2_with (go_at_call 87; refine (hasPrefix_any _ _ _).mono ?_; rintro e w' ⟨rfl, rfl⟩)
          go_round
          case rel =>
            refine ⟨k + 2, n + 1, by omega, by omega, by omega, by omega, by congr 1 <;> omega, by congr 1 <;> omega, ?_⟩
            unfold Hid
            rw [HR.out, Hd.out, Hee.out, Ht2.out, Option.map_map]
            congr 1; funext x; simp; omega
          case measure => simp [intOf]; omega
        · rw [if_neg hB] at hee
          have Hee := Lib.hid hee; clear hee
          have hne : Hid ((encl nested 1 (l.drop 2)).map (· + 2) = (encl nested n (l.drop (k + 1))).map (· + (k + 1))) := by
            unfold Hid; rw [HR.out, Hd.out, Ht.out, Hee.out, Option.map_map]; congr 1; funext x; simp; omega
          rcases nested with _ | _
          · clear p2 hB
            go_wp2_with (go_at_call 87; refine (hasPrefix_any _ _ _).mono ?_; rintro e w' ⟨rfl, rfl⟩)
            go_round
            case rel => exact ⟨k + 1, n, by omega, by omega, by omega, by omega, rfl, by go_num, hne⟩
            case measure => simp [intOf]; omega
          · rw [decide_eq_false (fun h => hB ⟨rfl, h⟩)] at p2
            clear hB
            go_wp2_with (go_at_call 87; refine (hasPrefix_any _ _ _).mono ?_; rintro e w' ⟨rfl, rfl⟩)
            go_round
            case rel => exact ⟨k + 1, n, by omega, by omega, by omega, by omega, rfl, by go_num, hne⟩
            case measure => simp [intOf]; omega

theorem cut_any (s : ByteArray) (l : List UInt8) (hs : s.data.toList = l) (L : ByteArray) (hL : L.data.toList = lineOf l) (w : World) (hm : s.size ≤ 10000) (hg : Hid (Glob w)) :
    Calls Tryz.prog 90 #[.string s, .string ⟨#[10]⟩] w fun e w' => (∃ a b, e = .returned (.tuple #[.string L, .string a, .bool b])) ∧ ∃ n, w' = w.drewN n := by
  obtain ⟨⟨m, hm'⟩, -⟩ := hg.out
  refine (Tryz.strings_Cut s ⟨#[10]⟩ m w (by omega) hm').mono fun e w' ⟨he, hw⟩ => ⟨⟨⟨(Lib.cut s.data.toList (ByteArray.mk #[10]).data.toList).2.1.toArray⟩, (Lib.cut s.data.toList (ByteArray.mk #[10]).data.toList).2.2, ?_⟩, hw⟩
  have : (Lib.cut s.data.toList (ByteArray.mk #[10]).data.toList).1 = lineOf l := by rw [hs]; exact cut_line l
  rw [he, this, ← hL]
theorem index_any (s : ByteArray) (l : List UInt8) (hs : s.data.toList = l) (w : World) (hm : s.size ≤ 10000) (hg : Hid (Glob w)) :
    Calls Tryz.prog 58 #[.string s, .string ⟨#[45, 45]⟩] w fun e w' => e = .returned (.int .i64 (Lib.index l [45, 45])) ∧ w = w' := by
  obtain ⟨⟨m, hm'⟩, -⟩ := hg.out
  exact (Tryz.strings_Index s ⟨#[45, 45]⟩ m w (by omega) hm').mono fun e w' ⟨he, hw⟩ => ⟨by rw [he, hs], hw.symm⟩

theorem commentLength_any (lang : Int) (hlang : lang = 0 ∨ lang = 1) (s : ByteArray) (l : List UInt8) (hs : s.data.toList = l) (hb : begins lang l = true) (w : World) (hm : s.size ≤ 10000) (hg : Hid (Glob w)) :
    Calls Tryz.prog 64 #[.int .i64 lang, .string s] w fun e w' => e = .returned (enclRes (commentLen lang l)) ∧ ∃ n, w' = w.drewN n := by
  obtain ⟨a, b, r, hl, h1, h2⟩ : ∃ a b r, l = a :: b :: r ∧ a.toNat ≠ 10 ∧ b.toNat ≠ 10 := by
    unfold begins lineMark at hb
    rcases l with _ | ⟨a, _ | ⟨b, r⟩⟩
    · split at hb <;> simp at hb
    · split at hb <;> simp [List.isPrefixOf] at hb
    · refine ⟨a, b, r, rfl, ?_⟩
      split at hb <;> simp [List.isPrefixOf] at hb <;> rcases hb with ⟨rfl, rfl⟩ | ⟨rfl, rfl⟩ <;> decide
  have hsz2 : 2 ≤ s.size := by rw [ba_len hs, hl]; simp
  have hp : preB s ⟨#[47, 42]⟩ = [47, 42].isPrefixOf l := by unfold preB Lib.hasPrefix; rw [hs]
  have hdr : l.drop 2 = r := by rw [hl]; rfl
  have hln : lineOf l = a :: b :: lineOf r := by
    have ha : a ≠ 10 := fun e => h1 (by rw [e]; rfl)
    have hb' : b ≠ 10 := fun e => h2 (by rw [e]; rfl)
    rw [hl]; unfold lineOf
    rw [List.takeWhile_cons, if_pos (by simpa using ha), List.takeWhile_cons, if_pos (by simpa using hb')]
  have hle : (lineOf r).length ≤ r.length := by unfold lineOf; exact (List.takeWhile_prefix _).length_le
  have hrl : r.length + 2 ≤ 10000 := by have := ba_len hs; rw [hl] at this; simp at this; omega
  have Hln := Lib.hid hln; have Hdr := Lib.hid hdr; have Hs := Lib.hid hs
  have Hl := Lib.hid hl
  clear hln hdr hs hl hb
  rcases hpre : [47, 42].isPrefixOf l with _ | _
  · rw [hpre] at hp
    have hcl : commentLen lang l = some (lineTail (decide (lang = 0)) r + 2) := by unfold commentLen; rw [hpre, if_neg (by decide), Hdr.out]
    have Hcl := Lib.hid hcl; clear hcl hpre
    obtain ⟨L, hL⟩ : ∃ L : ByteArray, L.data.toList = lineOf l := ⟨⟨(lineOf l).toArray⟩, rfl⟩
    have hL2 : L.size = (lineOf r).length + 2 := by rw [ba_len hL, Hln.out]; rfl
    have hL3 : 2 ≤ L.size := by omega
    have hL4 : L.size ≤ 10000 := by omega
    have hdL : (L.extract 2 L.size).data.toList = lineOf r := by rw [ba_drop hL, Hln.out]; rfl
    have hx : (L.extract 2 L.size).size ≤ 10000 := by rw [ba_len hdL]; omega
    obtain ⟨n, hn⟩ : ∃ n, Lib.index (lineOf r) [45, 45] = n := ⟨_, rfl⟩
    have hn1 := Lib.index_le (lineOf r) [45, 45]
    have hn0 := Lib.index_ge (lineOf r) [45, 45]
    rw [hn] at hn1 hn0
    have hn2 : n ≤ 10000 := by omega
    have HL := Lib.hid hL; have HL2 := Lib.hid hL2; have HdL := Lib.hid hdL; have Hn := Lib.hid hn
    clear hL hL2 hdL hn
    have hix : ∀ W : World, Hid (Glob W) → Calls Tryz.prog 58 #[.string (L.extract 2 L.size), .string ⟨#[45, 45]⟩] W fun e w' => e = .returned (.int .i64 n) ∧ W = w' := fun W hG =>
      (index_any _ _ HdL.out W hx hG).mono fun e w' ⟨he, hw⟩ => ⟨by rw [he, Hn.out], hw⟩
    have Hix := Lib.hid hix; clear hix
    rcases hlang with rfl | rfl
    · by_cases hnn : 0 ≤ n
      all_goals
        go_enter Tryz.func64, Tryz.ntmps64
        go_wp2_with (first | (go_at_call 87; refine (hasPrefix_any _ _ _).mono ?_; rintro e w' ⟨rfl, rfl⟩) | (go_at_call 90; refine (cut_any _ _ Hs.out L HL.out _ hm hg).mono ?_; rintro e w' ⟨⟨ca, cb, rfl⟩, cn, rfl⟩) | (go_at_call 58; refine (Hix.out _ (by exact hg)).mono ?_; rintro e w' ⟨rfl, rfl⟩))
        go_ret2
        refine ⟨?_, _, rfl⟩
        have ht := lineTail_asn r
        rw [Hn.out] at ht
        rw [Hcl.out]
        simp only [enclRes, decide_true]
        first | rw [if_pos hnn] at ht | rw [if_neg (by omega)] at ht
        have := HL2.out
        refine ret_int2 ?_ rfl
        omega
    · go_enter Tryz.func64, Tryz.ntmps64
      go_wp2_with (first | (go_at_call 87; refine (hasPrefix_any _ _ _).mono ?_; rintro e w' ⟨rfl, rfl⟩) | (go_at_call 90; refine (cut_any _ _ Hs.out L HL.out _ hm hg).mono ?_; rintro e w' ⟨⟨ca, cb, rfl⟩, cn, rfl⟩))
      go_ret2
      refine ⟨?_, _, rfl⟩
      rw [Hcl.out, HL2.out]
      simp [enclRes, lineTail_plain]
  · rw [hpre] at hp
    have hcl : commentLen lang l = (encl (decide (lang = 0)) 1 (l.drop 2)).map (· + 2) := by unfold commentLen; rw [hpre, if_pos rfl]
    clear hpre
    rcases hcv : commentLen lang l with _ | n
    all_goals
      rw [hcv] at hcl
      have Hcl := Lib.hid hcl; clear hcl hcv
      have hen : ∀ W : World, Calls Tryz.prog 89 #[.string s, .bool (decide (lang = 0))] W fun e w' => e = .returned (enclRes _) ∧ W = w' := fun W =>
        (enclosedLength_any (decide (lang = 0)) _ _ Hs.out W hm hsz2).mono fun e w' ⟨he, hw⟩ => ⟨by rw [he, ← Hcl.out], hw⟩
      simp only [enclRes] at hen
      have Hen := Lib.hid hen; clear hen
      rcases hlang with rfl | rfl
      all_goals
        go_enter Tryz.func64, Tryz.ntmps64
        go_wp2_with (first | (go_at_call 87; refine (hasPrefix_any _ _ _).mono ?_; rintro e w' ⟨rfl, rfl⟩) | (go_at_call 89; refine (Hen.out _).mono ?_; rintro e w' ⟨rfl, rfl⟩))
        go_ret2
        exact ⟨rfl, 0, rfl⟩
end Go.Proofs.YtfmpcchlpplanaaGreatDoor
