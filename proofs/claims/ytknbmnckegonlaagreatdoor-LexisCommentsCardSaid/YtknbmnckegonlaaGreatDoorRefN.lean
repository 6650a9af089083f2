/- The contract on the reference's piece, more of it: strings, bits and octets, names and words. -/
import Derived.Test.YtknbmnckegonlaaGreatDoorRefM
import Derived.Test.YtknbmnckegonlaaGreatDoorRefF
import Derived.Deep.RegionHeld3
namespace Go.Proofs.YtknbmnckegonlaaGreatDoor
open Go.RowKit

/-- What a call hands back that is a piece. -/
def Pieced (lang : Int) (l : List UInt8) (K : Nat) (w : World) (e : Ending) (w' : World) : Prop :=
  (∃ (pk pe pr : Int) (pc : Bool), e = .returned (.agg #[.int .i64 pk, .int .i64 pe, .bool pc, .int .i64 pr]) ∧ PieceVal lang l K (.agg #[.int .i64 pk, .int .i64 pe, .bool pc, .int .i64 pr])) ∧ Fr w.heap.size w w'
theorem piece_quoted_val (lang : Int) (l : List UInt8) (K : Nat) (c : UInt8) (t : List UInt8) (hd : l.drop K = c :: t) (hsp : isSpace c = false) (hb : begins lang (l.drop K) = false) (hle : isLetter c = false) (hdi : isDigit c = false) (h34 : c.toNat = 34)
    {w w' : World} {e : Ending} (he : e = .returned (quotedRes K (charsEnd (l.drop (K + 1)))) ∧ Fr w.heap.size w w') : Pieced lang l K w e w' := by
  obtain ⟨rfl, hf⟩ := he
  refine ⟨?_, hf⟩
  have hpc : pieceOf lang (l.drop K) = charsPiece (l.drop K) := by
    rw [hd] at hb ⊢; rw [pieceOf, if_neg (by rw [hsp]; decide), if_neg (by rw [hb]; decide), if_neg (by rw [hle]; decide), if_neg (by rw [hdi]; decide), if_pos h34]
  have h1 : (l.drop K).drop 1 = l.drop (K + 1) := by rw [List.drop_drop]
  unfold charsPiece at hpc
  rw [h1] at hpc
  cases hc : charsEnd (l.drop (K + 1)) with
  | none =>
    rw [hc] at hpc
    exact ⟨_, _, _, _, rfl, PieceVal.of hpc rfl (fun h => by cases h)⟩
  | some n =>
    rw [hc] at hpc
    simp only at hpc
    by_cases hn : 201 < n
    · rw [if_pos hn] at hpc
      exact ⟨_, _, _, _, rfl, PieceVal.of hpc (by rw [if_pos hn]) (fun h => by cases h)⟩
    · rw [if_neg hn] at hpc
      exact ⟨_, _, _, _, rfl, PieceVal.of hpc (by rw [if_neg hn]) (fun _ => ⟨rfl, rfl, fun _ => rfl⟩)⟩
theorem piece_digits_val (lang : Int) (l : List UInt8) (K : Nat) (c : UInt8) (t : List UInt8) (hd : l.drop K = c :: t) (hsp : isSpace c = false) (hb : begins lang (l.drop K) = false) (hle : isLetter c = false) (hdi : isDigit c = false) (h34 : c.toNat ≠ 34) (h39 : c.toNat = 39)
    {w w' : World} {e : Ending} (he : e = .returned (digitsRes lang l K (closeAt 39 (l.drop (K + 1)))) ∧ Fr w.heap.size w w') : Pieced lang l K w e w' := by
  obtain ⟨rfl, hf⟩ := he
  refine ⟨?_, hf⟩
  have hpc : pieceOf lang (l.drop K) = digitsPiece lang (l.drop K) := by
    rw [hd] at hb ⊢; rw [pieceOf, if_neg (by rw [hsp]; decide), if_neg (by rw [hb]; decide), if_neg (by rw [hle]; decide), if_neg (by rw [hdi]; decide), if_neg h34, if_pos h39]
  have h1 : (l.drop K).drop 1 = l.drop (K + 1) := by rw [List.drop_drop]
  unfold digitsPiece at hpc
  rw [h1] at hpc
  cases hc : closeAt 39 (l.drop (K + 1)) with
  | none =>
    rw [hc] at hpc
    exact ⟨_, _, _, _, rfl, PieceVal.of hpc rfl (fun h => by cases h)⟩
  | some n =>
    rw [hc] at hpc
    have h2 : (l.drop K).drop (n + 2) = l.drop (K + 1 + n + 1) := by rw [List.drop_drop]; congr 1; omega
    simp only [h2] at hpc
    unfold digitsRes
    by_cases hn : 200 < n
    · rw [if_pos hn] at hpc
      simp only [if_pos hn]
      exact ⟨_, _, _, _, rfl, PieceVal.of hpc rfl (fun h => by cases h)⟩
    · rw [if_neg hn] at hpc
      simp only [if_neg hn]
      by_cases hk : digitsKind lang ((l.drop (K + 1)).take n) (l.drop (K + 1 + n + 1)) = -1
      · rw [if_pos hk] at hpc
        rw [if_pos hk]
        exact ⟨_, _, _, _, rfl, PieceVal.of hpc rfl (fun h => by cases h)⟩
      · rw [if_neg hk] at hpc
        rw [if_neg hk]
        refine ⟨_, _, _, _, rfl, PieceVal.of hpc rfl (fun _ => ⟨?_, ?_, fun _ => rfl⟩)⟩
        · rfl
        · have : digitsKind lang ((l.drop (K + 1)).take n) (l.drop (K + 1 + n + 1)) ≠ 8 := by
            unfold digitsKind
            split
            · decide
            · split
              · decide
              · split <;> decide
          simp [this]

set_option maxRecDepth 100000 in
set_option maxHeartbeats 4000000 in
/-- A string. -/
theorem piece_quoted (lang : Int) (hlang : lang = 0 ∨ lang = 1) (s : ByteArray) (l : List UInt8) (hs : s.data.toList = l) (K : Nat) (c : UInt8) (t : List UInt8) (hd : l.drop K = c :: t) (w : World) (hm : s.size ≤ 10000) (hsp : isSpace c = false)
    (hb : begins lang (l.drop K) = false) (hle : isLetter c = false) (hdi : isDigit c = false) (h34 : c.toNat = 34) : Calls Tryz.prog 43 #[.int .i64 lang, .string s, .int .i64 K] w fun e w' => (∃ v, e = .returned v ∧ PieceVal lang l K v) ∧ Fr w.heap.size w w' := by
  obtain ⟨hK, hc, ht⟩ := ba_at hs K hd
  have hrv : rComment lang l K = .tuple #[.int .i64 0, .bool false] := by unfold rComment; rw [if_neg (by rw [hb]; decide)]
  have Hco : Hid (∀ w, Calls Tryz.prog 69 #[.int .i64 lang, .string s, .int .i64 K] w fun e w' => e = .returned (.tuple #[.int .i64 0, .bool false]) ∧ w = w') := fun w => by have := rComment_any lang hlang s l hs K w hm (by omega); rw [hrv] at this; exact this
  have Hle : Hid (∀ w, Calls Tryz.prog 54 #[.int .u8 (s[K].toNat : Int)] w fun e w' => e = .returned (.bool false) ∧ w = w') := fun w => by have := rLetter_any s[K] w; rw [hc, hle] at this; rw [hc]; exact this
  have Hdi : Hid (∀ w, Calls Tryz.prog 70 #[.int .u8 (s[K].toNat : Int)] w fun e w' => e = .returned (.bool false) ∧ w = w') := fun w => by have := bIsDigit_any s[K] w; rw [hc, hdi] at this; rw [hc]; exact this
  have Hn : Hid (∀ w, Calls Tryz.prog 72 #[.string s, .int .i64 K] w (Pieced lang l K w)) := fun w => (quoted_any s l hs K w hm hK).mono fun e w' he => piece_quoted_val lang l K c t hd hsp hb hle hdi h34 he
  have hb34 : ((s[K].toNat : Int) == 34) = true := by rw [hc]; simp; omega
  have hf := Fr.self w
  clear hs hrv hd ht hb hle hc hdi h34
  go_enter Tryz.func43, Tryz.ntmps43
  go_wp2_with (first | (go_at_call 69; refine (Hco.out _).mono ?_; rintro e w' ⟨rfl, rfl⟩) | (go_at_call 54; refine (Hle.out _).mono ?_; rintro e w' ⟨rfl, rfl⟩) | (go_at_call 70; refine (Hdi.out _).mono ?_; rintro e w' ⟨rfl, rfl⟩))
  refine (Hn.out _).mono ?_
  rintro e w2 ⟨⟨pk, pe, pr, pc, rfl, hpv⟩, hf2⟩
  have hb2 := (hf2.2.block w.heap.size (by simp)).trans (heap_alloc_new w _)
  obtain ⟨c0, c1, c2, c3, f0, f1, f2, f3⟩ := piece_cells hb2
  have Hpv := Lib.hid hpv; clear hpv
  go_wp2_with fail
  exact bodyPost_ret (piece_res rfl rfl (set4 hb2)) rfl ⟨⟨_, rfl, Hpv.out⟩, fr4 ((hf.alloc _).trans hf2) (Nat.le_refl _)⟩

set_option maxRecDepth 100000 in
set_option maxHeartbeats 4000000 in
/-- Bits and octets. -/
theorem piece_digits (lang : Int) (hlang : lang = 0 ∨ lang = 1) (s : ByteArray) (l : List UInt8) (hs : s.data.toList = l) (K : Nat) (c : UInt8) (t : List UInt8) (hd : l.drop K = c :: t) (w : World) (hm : s.size ≤ 10000) (hsp : isSpace c = false)
    (hb : begins lang (l.drop K) = false) (hle : isLetter c = false) (hdi : isDigit c = false) (h34 : c.toNat ≠ 34) (h39 : c.toNat = 39) : Calls Tryz.prog 43 #[.int .i64 lang, .string s, .int .i64 K] w fun e w' => (∃ v, e = .returned v ∧ PieceVal lang l K v) ∧ Fr w.heap.size w w' := by
  obtain ⟨hK, hc, ht⟩ := ba_at hs K hd
  have hrv : rComment lang l K = .tuple #[.int .i64 0, .bool false] := by unfold rComment; rw [if_neg (by rw [hb]; decide)]
  have Hco : Hid (∀ w, Calls Tryz.prog 69 #[.int .i64 lang, .string s, .int .i64 K] w fun e w' => e = .returned (.tuple #[.int .i64 0, .bool false]) ∧ w = w') := fun w => by have := rComment_any lang hlang s l hs K w hm (by omega); rw [hrv] at this; exact this
  have Hle : Hid (∀ w, Calls Tryz.prog 54 #[.int .u8 (s[K].toNat : Int)] w fun e w' => e = .returned (.bool false) ∧ w = w') := fun w => by have := rLetter_any s[K] w; rw [hc, hle] at this; rw [hc]; exact this
  have Hdi : Hid (∀ w, Calls Tryz.prog 70 #[.int .u8 (s[K].toNat : Int)] w fun e w' => e = .returned (.bool false) ∧ w = w') := fun w => by have := bIsDigit_any s[K] w; rw [hc, hdi] at this; rw [hc]; exact this
  have Hn : Hid (∀ w, Calls Tryz.prog 73 #[.int .i64 lang, .string s, .int .i64 K] w (Pieced lang l K w)) := fun w => (digits_any lang hlang s l hs K w hm hK).mono fun e w' he => piece_digits_val lang l K c t hd hsp hb hle hdi h34 h39 he
  have hb34 : ((s[K].toNat : Int) == 34) = false := by rw [hc]; simp; omega
  have hb39 : ((s[K].toNat : Int) == 39) = true := by rw [hc]; simp; omega
  have hf := Fr.self w
  clear hs hrv hd ht hb hle hc hdi h34 h39
  go_enter Tryz.func43, Tryz.ntmps43
  go_wp2_with (first | (go_at_call 69; refine (Hco.out _).mono ?_; rintro e w' ⟨rfl, rfl⟩) | (go_at_call 54; refine (Hle.out _).mono ?_; rintro e w' ⟨rfl, rfl⟩) | (go_at_call 70; refine (Hdi.out _).mono ?_; rintro e w' ⟨rfl, rfl⟩))
  refine (Hn.out _).mono ?_
  rintro e w2 ⟨⟨pk, pe, pr, pc, rfl, hpv⟩, hf2⟩
  have hb2 := (hf2.2.block w.heap.size (by simp)).trans (heap_alloc_new w _)
  obtain ⟨c0, c1, c2, c3, f0, f1, f2, f3⟩ := piece_cells hb2
  have Hpv := Lib.hid hpv; clear hpv
  go_wp2_with fail
  exact bodyPost_ret (piece_res rfl rfl (set4 hb2)) rfl ⟨⟨_, rfl, Hpv.out⟩, fr4 ((hf.alloc _).trans hf2) (Nat.le_refl _)⟩
end Go.Proofs.YtknbmnckegonlaaGreatDoor
