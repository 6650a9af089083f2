/- The contract on symbols: the longest one of the language with which a string begins. -/
import Derived.Test.YtfmpcchlpplanaaGreatDoorListed
namespace Go.Proofs.YtfmpcchlpplanaaGreatDoor
open Go.RowKit

def symFrom (lang : Int) (l : List UInt8) : Nat → Nat
  | 0 => 0
  | k + 1 => if k + 1 ≤ l.length ∧ isSym lang (l.take (k + 1)) = true then k + 1 else symFrom lang l k
theorem symLen_from (lang : Int) (l : List UInt8) : symLen lang l = symFrom lang l 3 := by
  simp [symLen, symFrom]
theorem symFrom_skip (lang : Int) (l : List UInt8) {k : Nat} (h : l.length < k + 1) : symFrom lang l (k + 1) = symFrom lang l k := by
  rw [symFrom, if_neg (by omega)]
theorem symFrom_min (lang : Int) (l : List UInt8) : symFrom lang l 3 = symFrom lang l (min 3 l.length) := by
  match h : l.length with
  | 0 => rw [symFrom_skip _ _ (by omega), symFrom_skip _ _ (by omega), symFrom_skip _ _ (by omega)]; rfl
  | 1 => rw [symFrom_skip _ _ (by omega), symFrom_skip _ _ (by omega)]; rfl
  | 2 => rw [symFrom_skip _ _ (by omega)]; rfl
  | n + 3 => rw [Nat.min_eq_left (by omega)]
theorem contains_blank : ∀ l : List UInt8, Lib.contains l [32] = decide ((32 : UInt8) ∈ l)
  | [] => rfl
  | c :: t => by
    rw [contains_cons, contains_blank t, Bool.eq_iff_iff]
    simp [List.isPrefixOf]
theorem contains_b (ls sub : ByteArray) (b : Bool) (w : World) (hg : Hid (Glob w)) (hl : ls.size ≤ 10000) (hb : Hid (Lib.contains ls.data.toList sub.data.toList = b)) :
    Calls Tryz.prog 42 #[.string ls, .string sub] w fun e w' => e = .returned (.bool b) ∧ w = w' := by
  obtain ⟨⟨m, hm⟩, -⟩ := hg.out
  exact (Tryz.strings_Contains ls sub m w (by omega) hm).mono fun e w' ⟨he, hw⟩ => ⟨by rw [he, hb.out], hw.symm⟩

theorem symbolPiece_any (lang : Int) (hlang : lang = 0 ∨ lang = 1) (s : ByteArray) (l : List UInt8) (hs : s.data.toList = l) (w : World) (hm : s.size ≤ 10000) (hg : Hid (Glob w)) :
    Calls Tryz.prog 70 #[.int .i64 lang, .string s] w fun e w' => e = .returned (.tuple #[.int .i64 (symbolPiece lang l).kind, .int .i64 (symbolPiece lang l).len, .int .i64 (symbolPiece lang l).err]) ∧ w = w' := by
  have Hs := Lib.hid hs; clear hs
  have hmin : Hid (symLen lang l = symFrom lang l (min 3 s.size)) := by unfold Hid; rw [ba_len Hs.out, symLen_from, symFrom_min]
  go_enter Tryz.func70, Tryz.ntmps70
  go_wp2
  go_loop [7] (fun i => ∃ k : Nat, k ≤ 3 ∧ k ≤ s.size ∧ i = .int .i64 k ∧ Hid (symLen lang l = symFrom lang l k)) (fun i => (intOf i).toNat)
  case atStart => exact ⟨min 3 s.size, by omega, by omega, by congr 1; omega, hmin⟩
  case round =>
    obtain ⟨k, hk3, hk, rfl, HR⟩ := hrel
    have Hsz := syms_size lang
    rcases k with _ | k
    · go_wp2_with fail
      go_ret3
      exact ⟨by rw [symbolPiece, HR.out]; rfl, rfl⟩
    · have hlen : (l.take (k + 1)).length = k + 1 := by rw [List.length_take, ← ba_len Hs.out]; omega
      have hx : (s.extract 0 (k + 1)).size ≤ 10000 := by rw [ba_size, ba_take Hs.out, hlen]; omega
      have hcond : (k + 1 ≤ l.length ∧ isSym lang (l.take (k + 1)) = true) ↔ isSym lang (l.take (k + 1)) = true := by rw [← ba_len Hs.out]; exact ⟨fun h => h.2, fun h => ⟨hk, h⟩⟩
      have Hcond := Lib.hid hcond
      clear hlen hcond
      by_cases hbl : (32 : UInt8) ∈ l.take (k + 1)
      · have Hbl : Hid (Lib.contains (s.extract 0 (k + 1)).data.toList (ByteArray.mk #[32]).data.toList = true) := by
          unfold Hid; rw [ba_take Hs.out, ba_blank, contains_blank]; exact decide_eq_true hbl
        have hns : isSym lang (l.take (k + 1)) = false := by
          cases h : isSym lang (l.take (k + 1))
          · rfl
          · exact absurd rfl (syms_blank lang _ (of_decide_eq_true h) _ hbl)
        have Hns := Lib.hid hns; clear hns hbl
        go_wp2_with (first | (go_at_call 42; refine (contains_b _ _ _ _ hg hx Hbl).mono ?_; rintro e w' ⟨rfl, rfl⟩) | (go_at_call 20; refine (symbolList_any _ hlang _).mono ?_; rintro e w' ⟨rfl, rfl⟩) | (go_at_call 23; refine (isListed_b _ _ _ _ hg Hsz hx Hli).mono ?_; rintro e w' ⟨rfl, rfl⟩))
        go_round
        case rel => exact ⟨k, by omega, by omega, by go_num, by unfold Hid; rw [HR.out, symFrom, if_neg (by rw [Hcond.out, Hns.out]; decide)]⟩
        case measure => simp [intOf] <;> omega
      · have Hbl : Hid (Lib.contains (s.extract 0 (k + 1)).data.toList (ByteArray.mk #[32]).data.toList = false) := by
          unfold Hid; rw [ba_take Hs.out, ba_blank, contains_blank]; exact decide_eq_false hbl
        have hli : Lib.contains (ByteArray.mk (listT (symsOf lang)).toArray).data.toList (32 :: ((s.extract 0 (k + 1)).data.toList ++ [32])) = isSym lang (l.take (k + 1)) := by
          rw [ba_mk, ba_take Hs.out, isSym_listed _ _ (fun c hc => fun e => hbl (by rw [← e]; exact hc))]
        clear hbl
        rcases hsy : isSym lang (l.take (k + 1)) with _ | _
        · rw [hsy] at hli
          have Hsy := Lib.hid hsy; have Hli := Lib.hid hli; clear hsy hli
          go_wp2_with (first | (go_at_call 42; refine (contains_b _ _ _ _ hg hx Hbl).mono ?_; rintro e w' ⟨rfl, rfl⟩) | (go_at_call 20; refine (symbolList_any _ hlang _).mono ?_; rintro e w' ⟨rfl, rfl⟩) | (go_at_call 23; refine (isListed_b _ _ _ _ hg Hsz hx Hli).mono ?_; rintro e w' ⟨rfl, rfl⟩))
          go_round
          case rel => exact ⟨k, by omega, by omega, by go_num, by unfold Hid; rw [HR.out, symFrom, if_neg (by rw [Hcond.out, Hsy.out]; decide)]⟩
          case measure => simp [intOf] <;> omega
        · rw [hsy] at hli
          have Hsy := Lib.hid hsy; have Hli := Lib.hid hli; clear hsy hli
          go_wp2_with (first | (go_at_call 42; refine (contains_b _ _ _ _ hg hx Hbl).mono ?_; rintro e w' ⟨rfl, rfl⟩) | (go_at_call 20; refine (symbolList_any _ hlang _).mono ?_; rintro e w' ⟨rfl, rfl⟩) | (go_at_call 23; refine (isListed_b _ _ _ _ hg Hsz hx Hli).mono ?_; rintro e w' ⟨rfl, rfl⟩))
          go_ret3
          refine ⟨?_, rfl⟩
          rw [symbolPiece, HR.out, symFrom, if_pos (Hcond.out.2 Hsy.out)]
          simp
end Go.Proofs.YtfmpcchlpplanaaGreatDoor
