/- The contract on the reference's piece. The contract on the reference's piece, more of it: strings, bits and octets, names and words. The contract on the reference's piece: names and words. The contract on the reference's piece: symbols; and on all of it. -/
import Derived.Test.YtknbmnckegonlaaGreatDoorRefL
import Derived.Test.YtknbmnckegonlaaGreatDoorRefE
import Derived.Test.YtknbmnckegonlaaGreatDoorRefC
import Derived.Test.YtknbmnckegonlaaGreatDoorPlace
import Derived.Lib.Builder
import Derived.Test.YtknbmnckegonlaaGreatDoorRefF
import Derived.Deep.RegionHeld3
namespace Go.Proofs.YtknbmnckegonlaaGreatDoor
open Go.RowKit

theorem piece_cells {w2 : World} {g : Nat} {a b c d : Value} (h : w2.heap[g]? = some (.cells #[a, b, c, d] 79 (0, 0))) :
    w2.cell? ⟨g, 0, none⟩ = some a ∧ w2.cell? ⟨g, 1, none⟩ = some b ∧ w2.cell? ⟨g, 2, none⟩ = some c ∧ w2.cell? ⟨g, 3, none⟩ = some d ∧
      w2.frozen? ⟨g, 0, none⟩ = false ∧ w2.frozen? ⟨g, 1, none⟩ = false ∧ w2.frozen? ⟨g, 2, none⟩ = false ∧ w2.frozen? ⟨g, 3, none⟩ = false := by
  refine ⟨?_, ?_, ?_, ?_, Lib.frozen_of_heap h 0, Lib.frozen_of_heap h 1, Lib.frozen_of_heap h 2, Lib.frozen_of_heap h 3⟩ <;> rw [Lib.cell_of_heap h] <;> rfl

theorem block_set {w : World} {g : Nat} {cs : Array Value} {t : TypeId} {fr : Nat × Nat} (h : w.heap[g]? = some (.cells cs t fr)) (i : Nat) (v : Value) : (w.setCell ⟨g, i, none⟩ v).heap[g]? = some (.cells (cs.setIfInBounds i v) t fr) := by
  simp [World.setCell, Array.getElem?_modify, h]
theorem set4 {w2 : World} {g : Nat} {a b c d a' b' c' d' : Value} (h : w2.heap[g]? = some (.cells #[a, b, c, d] 79 (0, 0))) :
    ((((w2.setCell ⟨g, 0, none⟩ a').setCell ⟨g, 1, none⟩ b').setCell ⟨g, 2, none⟩ c').setCell ⟨g, 3, none⟩ d').heap[g]? = some (.cells #[a', b', c', d'] 79 (0, 0)) :=
  block_set (block_set (block_set (block_set h 0 a') 1 b') 2 c') 3 d'
theorem fr4 {w0 w2 : World} {B g : Nat} {a' b' c' d' : Value} (h : Fr B w0 w2) (hg : B ≤ g) : Fr B w0 ((((w2.setCell ⟨g, 0, none⟩ a').setCell ⟨g, 1, none⟩ b').setCell ⟨g, 2, none⟩ c').setCell ⟨g, 3, none⟩ d') :=
  (((h.setCell (p := ⟨g, 0, none⟩) hg _).setCell (p := ⟨g, 1, none⟩) hg _).setCell (p := ⟨g, 2, none⟩) hg _).setCell (p := ⟨g, 3, none⟩) hg _

set_option maxRecDepth 100000 in
set_option maxHeartbeats 4000000 in
/-- A comment. -/
theorem piece_comment (lang : Int) (hlang : lang = 0 ∨ lang = 1) (s : ByteArray) (l : List UInt8) (hs : s.data.toList = l) (K : Nat) (c : UInt8) (t : List UInt8) (hd : l.drop K = c :: t) (w : World) (hm : s.size ≤ 10000) (hsp : isSpace c = false)
    (hb : begins lang (l.drop K) = true) : Calls Tryz.prog 43 #[.int .i64 lang, .string s, .int .i64 K] w fun e w' => (∃ v, e = .returned v ∧ PieceVal lang l K v) ∧ Fr w.heap.size w w' := by
  have hK : K ≤ s.size := by
    rw [ba_len hs]
    rcases Nat.lt_or_ge K l.length with h | h
    · omega
    · rw [List.drop_eq_nil_of_le h] at hd; cases hd
  have hco := fun w => rComment_any lang hlang s l hs K w hm hK
  have hrv : rComment lang l K = comRes K (commentLen lang (l.drop K)) := by unfold rComment; rw [if_pos hb]
  have hf := Fr.self w
  have hpc : pieceOf lang (l.drop K) = match commentLen lang (l.drop K) with | some n => ⟨8, n, 0⟩ | none => ⟨8, 0, 39⟩ := by
    rw [hd] at hb ⊢; rw [pieceOf, if_neg (by rw [hsp]; decide), if_pos hb]; cases commentLen lang (c :: t) <;> rfl
  rcases hc : commentLen lang (l.drop K) with _ | n
  · rw [hc] at hrv hpc
    have Hco : Hid (∀ w, Calls Tryz.prog 69 #[.int .i64 lang, .string s, .int .i64 K] w fun e w' => e = .returned (.tuple #[.int .i64 0, .bool true]) ∧ w = w') := fun w => by have := hco w; rw [hrv] at this; exact this
    have Hpv : Hid (PieceVal lang l K (.agg #[.int .i64 0, .int .i64 0, .bool true, .int .i64 39])) := PieceVal.of hpc rfl (fun h => by cases h)
    clear hco hrv hpc hc hs hd hb
    go_enter Tryz.func43, Tryz.ntmps43
    go_wp2_with (first | (go_at_call 69; refine (Hco.out _).mono ?_; rintro e w' ⟨rfl, rfl⟩) | (go_at_call 39; refine (count_any _ _).mono ?_; rintro e w' ⟨rfl, rfl⟩))
    exact bodyPost_ret (piece_res rfl rfl (heap_alloc_new _ _)) rfl ⟨⟨_, rfl, Hpv.out⟩, hf.alloc _⟩
  · rw [hc] at hrv hpc
    have hn2 : 1 ≤ n := by
      have hl := pieceOf_len lang c t (by rw [← hd, hpc])
      rw [← hd, hpc] at hl; exact hl.1
    have Hco : Hid (∀ w, Calls Tryz.prog 69 #[.int .i64 lang, .string s, .int .i64 K] w fun e w' => e = .returned (.tuple #[.int .i64 ((K + n : Nat) : Int), .bool true]) ∧ w = w') := fun w => by have := hco w; rw [hrv] at this; exact this
    have Hpv : Hid (PieceVal lang l K (.agg #[.int .i64 0, .int .i64 ((K + n : Nat) : Int), .bool true, .int .i64 0])) := PieceVal.of hpc rfl (fun _ => ⟨rfl, rfl, fun h => absurd rfl h⟩)
    have he0 : (((K + n : Nat) : Int) == 0) = false := by simp; omega
    obtain ⟨E, hE⟩ : ∃ E : Nat, K + n = E := ⟨_, rfl⟩
    rw [hE] at Hco Hpv he0
    clear hco hrv hpc hc hs hd hb hE
    go_enter Tryz.func43, Tryz.ntmps43
    go_wp2_with (first | (go_at_call 69; refine (Hco.out _).mono ?_; rintro e w' ⟨rfl, rfl⟩) | (go_at_call 39; refine (count_any _ _).mono ?_; rintro e w' ⟨rfl, rfl⟩))
    exact bodyPost_ret (piece_res rfl rfl (heap_alloc_new _ _)) rfl ⟨⟨_, rfl, Hpv.out⟩, hf.alloc _⟩

set_option maxRecDepth 100000 in
set_option maxHeartbeats 4000000 in
/-- A number. -/
theorem piece_number (lang : Int) (hlang : lang = 0 ∨ lang = 1) (s : ByteArray) (l : List UInt8) (hs : s.data.toList = l) (K : Nat) (c : UInt8) (t : List UInt8) (hd : l.drop K = c :: t) (w : World) (hm : s.size ≤ 10000) (hsp : isSpace c = false)
    (hb : begins lang (l.drop K) = false) (hle : isLetter c = false) (hdi : isDigit c = true) : Calls Tryz.prog 43 #[.int .i64 lang, .string s, .int .i64 K] w fun e w' => (∃ v, e = .returned v ∧ PieceVal lang l K v) ∧ Fr w.heap.size w w' := by
  obtain ⟨hK, hc, ht⟩ := ba_at hs K hd
  have hrv : rComment lang l K = .tuple #[.int .i64 0, .bool false] := by unfold rComment; rw [if_neg (by rw [hb]; decide)]
  have Hco : Hid (∀ w, Calls Tryz.prog 69 #[.int .i64 lang, .string s, .int .i64 K] w fun e w' => e = .returned (.tuple #[.int .i64 0, .bool false]) ∧ w = w') := fun w => by have := rComment_any lang hlang s l hs K w hm (by omega); rw [hrv] at this; exact this
  have hpc : pieceOf lang (l.drop K) = numberPiece (l.drop K) := by
    rw [hd] at hb ⊢; rw [pieceOf, if_neg (by rw [hsp]; decide), if_neg (by rw [hb]; decide), if_neg (by rw [hle]; decide), if_pos hdi]
  have Hle : Hid (∀ w, Calls Tryz.prog 54 #[.int .u8 (s[K].toNat : Int)] w fun e w' => e = .returned (.bool false) ∧ w = w') := fun w => by have := rLetter_any s[K] w; rw [hc, hle] at this; rw [hc]; exact this
  have Hdi : Hid (∀ w, Calls Tryz.prog 70 #[.int .u8 (s[K].toNat : Int)] w fun e w' => e = .returned (.bool true) ∧ w = w') := fun w => by have := bIsDigit_any s[K] w; rw [hc, hdi] at this; rw [hc]; exact this
  have hf := Fr.self w
  have Hs := Lib.hid hs
  have hnl : numTail (l.drop K) = numLen (l.drop K) := by rw [hd, numTail, if_pos hdi, numLen]; rfl
  have hnum : ∀ k, K < k → k ≤ s.size → numTail (l.drop K) + K = k → ∀ w, Calls Tryz.prog 71 #[.string s, .int .i64 K, .int .i64 k] w fun e w' => (∃ (pk pe pr : Int) (pc : Bool), e = .returned (.agg #[.int .i64 pk, .int .i64 pe, .bool pc, .int .i64 pr]) ∧ PieceVal lang l K (.agg #[.int .i64 pk, .int .i64 pe, .bool pc, .int .i64 pr])) ∧ Fr w.heap.size w w' := by
    intro k hk1 hk2 hk3 w
    have hkn : k - K = numLen (l.drop K) := by omega
    refine (rNumber_any s l hs K k w hm hk1 hk2 (by rw [hkn, ← hnl]; exact numTail_digits _)).mono fun e w' he => ⟨⟨_, _, _, _, he.1, ?_⟩, he.2⟩
    rw [hkn]
    have hlen : ((l.drop K).take (numLen (l.drop K))).length = numLen (l.drop K) := by rw [List.length_take, List.length_drop, ← ba_len hs]; omega
    have hh : ((l.drop K).take (numLen (l.drop K))).head? = (l.drop K).head? := by
      rw [hd]; unfold numLen; rw [List.take_succ_cons]; rfl
    refine PieceVal.of hpc ?_ ?_
    · unfold numErr numberPiece
      rw [hlen, hh]
      split
      · rfl
      · split <;> rfl
    · intro h
      unfold numberPiece at h ⊢
      split at h
      · cases h
      · split at h
        · cases h
        · rename_i h1 h2
          rw [if_neg h1, if_neg h2]
          refine ⟨?_, rfl, fun _ => rfl⟩
          show (k : Int) = ((K + numLen (l.drop K) : Nat) : Int)
          omega
  have Hnum := Lib.hid hnum
  have H0 : 1 ≤ numTail (l.drop K) := by rw [hnl]; unfold numLen; omega
  clear hs hpc hnl hrv hnum hd ht hb hle hc
  go_enter Tryz.func43, Tryz.ntmps43
  go_wp2_with (first | (go_at_call 69; refine (Hco.out _).mono ?_; rintro e w' ⟨rfl, rfl⟩) | (go_at_call 54; refine (Hle.out _).mono ?_; rintro e w' ⟨rfl, rfl⟩) | (go_at_call 70; refine (Hdi.out _).mono ?_; rintro e w' ⟨rfl, rfl⟩))
  go_loop [11] (fun i => ∃ k : Nat, K ≤ k ∧ k ≤ s.size ∧ i = .int .i64 k ∧ Hid (numTail (l.drop K) + K = numTail (l.drop k) + k)) (fun i => s.size - (intOf i).toNat)
  case atStart => exact ⟨K, by omega, by omega, rfl, rfl⟩
  case round =>
    obtain ⟨k, hk1, hk, rfl, HR⟩ := hrel
    rcases hdk : l.drop k with _ | ⟨d, u⟩
    · have hge := ba_end Hs.out k hdk
      have hk3 : numTail (l.drop K) + K = k := by rw [HR.out, hdk, numTail]; omega
      have Hn := Lib.hid (Hnum.out k (by omega) hk hk3)
      clear hdk hk3
      go_wp2_with fail
      refine (Hn.out _).mono ?_
      rintro e w2 ⟨⟨pk, pe, pr, pc, rfl, hpv⟩, hf2⟩
      have hb2 := (hf2.2.block w.heap.size (by simp)).trans (heap_alloc_new w _)
      obtain ⟨c0, c1, c2, c3, f0, f1, f2, f3⟩ := piece_cells hb2
      have Hpv := Lib.hid hpv; clear hpv
      go_wp2_with fail
      exact bodyPost_ret (piece_res rfl rfl (set4 hb2)) rfl ⟨⟨_, rfl, Hpv.out⟩, fr4 ((hf.alloc _).trans hf2) (Nat.le_refl _)⟩
    · obtain ⟨hlt, hcd, hu⟩ := ba_at Hs.out k hdk
      by_cases hdd : isDigit d = true
      · have Hdd : Hid (∀ w, Calls Tryz.prog 70 #[.int .u8 (s[k].toNat : Int)] w fun e w' => e = .returned (.bool true) ∧ w = w') := fun w => by have := bIsDigit_any s[k] w; rw [hcd, hdd] at this; rw [hcd]; exact this
        have Hn2 : Hid (numTail (l.drop K) + K = numTail (l.drop (k + 1)) + (k + 1)) := by unfold Hid; rw [HR.out, hdk, numTail, if_pos hdd, hu]; omega
        clear hdk hcd hu hdd
        go_wp2_with (go_at_call 70; refine (Hdd.out _).mono ?_; rintro e w' ⟨rfl, rfl⟩)
        go_round
        case rel => exact ⟨k + 1, by omega, by omega, by go_num, Hn2⟩
        case measure => simp [intOf] <;> omega
      · have hdf : isDigit d = false := by simpa using hdd
        have Hdd : Hid (∀ w, Calls Tryz.prog 70 #[.int .u8 (s[k].toNat : Int)] w fun e w' => e = .returned (.bool false) ∧ w = w') := fun w => by have := bIsDigit_any s[k] w; rw [hcd, hdf] at this; rw [hcd]; exact this
        have hk3 : numTail (l.drop K) + K = k := by rw [HR.out, hdk, numTail, if_neg hdd]; omega
        clear hcd hu hdd hdf
        have hKk : K < k := by have := H0; omega
        have Hn := Lib.hid (Hnum.out k hKk hk hk3)
        clear hdk hk3
        go_wp2_with (go_at_call 70; refine (Hdd.out _).mono ?_; rintro e w' ⟨rfl, rfl⟩)
        refine (Hn.out _).mono ?_
        rintro e w2 ⟨⟨pk, pe, pr, pc, rfl, hpv⟩, hf2⟩
        have hb2 := (hf2.2.block w.heap.size (by simp)).trans (heap_alloc_new w _)
        obtain ⟨c0, c1, c2, c3, f0, f1, f2, f3⟩ := piece_cells hb2
        have Hpv := Lib.hid hpv; clear hpv
        go_wp2_with fail
        exact bodyPost_ret (piece_res rfl rfl (set4 hb2)) rfl ⟨⟨_, rfl, Hpv.out⟩, fr4 ((hf.alloc _).trans hf2) (Nat.le_refl _)⟩
end Go.Proofs.YtknbmnckegonlaaGreatDoor
namespace Go.Proofs.YtknbmnckegonlaaGreatDoor
open Go.RowKit

/-- What a call hands back that is a piece. -/
def Pieced (lang : Int) (l : List UInt8) (K : Nat) (w : World) (e : Ending) (w' : World) : Prop :=
  (∃ (pk pe pr : Int) (pc : Bool), e = .returned (.agg #[.int .i64 pk, .int .i64 pe, .bool pc, .int .i64 pr]) ∧ PieceVal lang l K (.agg #[.int .i64 pk, .int .i64 pe, .bool pc, .int .i64 pr])) ∧ Fr w.heap.size w w'
theorem piece_quoted_val (lang : Int) (l : List UInt8) (K : Nat) (c : UInt8) (t : List UInt8) (hd : l.drop K = c :: t) (hsp : isSpace c = false) (hb : begins lang (l.drop K) = false) (hle : isLetter c = false) (hdi : isDigit c = false) (h34 : c.toNat = 34)
    {w w' : World} {e : Ending} (he : e = .returned (quotedRes K (charsEnd (l.drop (K + 1)))) ∧ Fr w.heap.size w w') : Pieced lang l K w e w' := by
  obtain ⟨rfl, hf⟩ := he
  refine ⟨?_, hf⟩
  have hpc : pieceOf lang (l.drop K) = charsPiece (l.drop K) := by
    rw [hd] at hb ⊢; rw [pieceOf, if_neg (by rw [hsp]; decide), if_neg (by rw [hb]; decide), if_neg (by rw [hle]; decide), if_neg (by rw [hdi]; decide), if_pos h34]
  have h1 : (l.drop K).drop 1 = l.drop (K + 1) := by rw [List.drop_drop]
  unfold charsPiece at hpc
  rw [h1] at hpc
  cases hc : charsEnd (l.drop (K + 1)) with
  | none =>
    rw [hc] at hpc
    exact ⟨_, _, _, _, rfl, PieceVal.of hpc rfl (fun h => by cases h)⟩
  | some n =>
    rw [hc] at hpc
    simp only at hpc
    by_cases hn : 201 < n
    · rw [if_pos hn] at hpc
      exact ⟨_, _, _, _, rfl, PieceVal.of hpc (by rw [if_pos hn]) (fun h => by cases h)⟩
    · rw [if_neg hn] at hpc
      exact ⟨_, _, _, _, rfl, PieceVal.of hpc (by rw [if_neg hn]) (fun _ => ⟨rfl, rfl, fun _ => rfl⟩)⟩
theorem piece_digits_val (lang : Int) (l : List UInt8) (K : Nat) (c : UInt8) (t : List UInt8) (hd : l.drop K = c :: t) (hsp : isSpace c = false) (hb : begins lang (l.drop K) = false) (hle : isLetter c = false) (hdi : isDigit c = false) (h34 : c.toNat ≠ 34) (h39 : c.toNat = 39)
    {w w' : World} {e : Ending} (he : e = .returned (digitsRes lang l K (closeAt 39 (l.drop (K + 1)))) ∧ Fr w.heap.size w w') : Pieced lang l K w e w' := by
  obtain ⟨rfl, hf⟩ := he
  refine ⟨?_, hf⟩
  have hpc : pieceOf lang (l.drop K) = digitsPiece lang (l.drop K) := by
    rw [hd] at hb ⊢; rw [pieceOf, if_neg (by rw [hsp]; decide), if_neg (by rw [hb]; decide), if_neg (by rw [hle]; decide), if_neg (by rw [hdi]; decide), if_neg h34, if_pos h39]
  have h1 : (l.drop K).drop 1 = l.drop (K + 1) := by rw [List.drop_drop]
  unfold digitsPiece at hpc
  rw [h1] at hpc
  cases hc : closeAt 39 (l.drop (K + 1)) with
  | none =>
    rw [hc] at hpc
    exact ⟨_, _, _, _, rfl, PieceVal.of hpc rfl (fun h => by cases h)⟩
  | some n =>
    rw [hc] at hpc
    have h2 : (l.drop K).drop (n + 2) = l.drop (K + 1 + n + 1) := by rw [List.drop_drop]; congr 1; omega
    simp only [h2] at hpc
    unfold digitsRes
    by_cases hn : 200 < n
    · rw [if_pos hn] at hpc
      simp only [if_pos hn]
      exact ⟨_, _, _, _, rfl, PieceVal.of hpc rfl (fun h => by cases h)⟩
    · rw [if_neg hn] at hpc
      simp only [if_neg hn]
      by_cases hk : digitsKind lang ((l.drop (K + 1)).take n) (l.drop (K + 1 + n + 1)) = -1
      · rw [if_pos hk] at hpc
        rw [if_pos hk]
        exact ⟨_, _, _, _, rfl, PieceVal.of hpc rfl (fun h => by cases h)⟩
      · rw [if_neg hk] at hpc
        rw [if_neg hk]
        refine ⟨_, _, _, _, rfl, PieceVal.of hpc rfl (fun _ => ⟨?_, ?_, fun _ => rfl⟩)⟩
        · rfl
        · have : digitsKind lang ((l.drop (K + 1)).take n) (l.drop (K + 1 + n + 1)) ≠ 8 := by
            unfold digitsKind
            split
            · decide
            · split
              · decide
              · split <;> decide
          simp [this]

set_option maxRecDepth 100000 in
set_option maxHeartbeats 4000000 in
/-- A string. -/
theorem piece_quoted (lang : Int) (hlang : lang = 0 ∨ lang = 1) (s : ByteArray) (l : List UInt8) (hs : s.data.toList = l) (K : Nat) (c : UInt8) (t : List UInt8) (hd : l.drop K = c :: t) (w : World) (hm : s.size ≤ 10000) (hsp : isSpace c = false)
    (hb : begins lang (l.drop K) = false) (hle : isLetter c = false) (hdi : isDigit c = false) (h34 : c.toNat = 34) : Calls Tryz.prog 43 #[.int .i64 lang, .string s, .int .i64 K] w fun e w' => (∃ v, e = .returned v ∧ PieceVal lang l K v) ∧ Fr w.heap.size w w' := by
  obtain ⟨hK, hc, ht⟩ := ba_at hs K hd
  have hrv : rComment lang l K = .tuple #[.int .i64 0, .bool false] := by unfold rComment; rw [if_neg (by rw [hb]; decide)]
  have Hco : Hid (∀ w, Calls Tryz.prog 69 #[.int .i64 lang, .string s, .int .i64 K] w fun e w' => e = .returned (.tuple #[.int .i64 0, .bool false]) ∧ w = w') := fun w => by have := rComment_any lang hlang s l hs K w hm (by omega); rw [hrv] at this; exact this
  have Hle : Hid (∀ w, Calls Tryz.prog 54 #[.int .u8 (s[K].toNat : Int)] w fun e w' => e = .returned (.bool false) ∧ w = w') := fun w => by have := rLetter_any s[K] w; rw [hc, hle] at this; rw [hc]; exact this
  have Hdi : Hid (∀ w, Calls Tryz.prog 70 #[.int .u8 (s[K].toNat : Int)] w fun e w' => e = .returned (.bool false) ∧ w = w') := fun w => by have := bIsDigit_any s[K] w; rw [hc, hdi] at this; rw [hc]; exact this
  have Hn : Hid (∀ w, Calls Tryz.prog 72 #[.string s, .int .i64 K] w (Pieced lang l K w)) := fun w => (quoted_any s l hs K w hm hK).mono fun e w' he => piece_quoted_val lang l K c t hd hsp hb hle hdi h34 he
  have hb34 : ((s[K].toNat : Int) == 34) = true := by rw [hc]; simp; omega
  have hf := Fr.self w
  clear hs hrv hd ht hb hle hc hdi h34
  go_enter Tryz.func43, Tryz.ntmps43
  go_wp2_with (first | (go_at_call 69; refine (Hco.out _).mono ?_; rintro e w' ⟨rfl, rfl⟩) | (go_at_call 54; refine (Hle.out _).mono ?_; rintro e w' ⟨rfl, rfl⟩) | (go_at_call 70; refine (Hdi.out _).mono ?_; rintro e w' ⟨rfl, rfl⟩))
  refine (Hn.out _).mono ?_
  rintro e w2 ⟨⟨pk, pe, pr, pc, rfl, hpv⟩, hf2⟩
  have hb2 := (hf2.2.block w.heap.size (by simp)).trans (heap_alloc_new w _)
  obtain ⟨c0, c1, c2, c3, f0, f1, f2, f3⟩ := piece_cells hb2
  have Hpv := Lib.hid hpv; clear hpv
  go_wp2_with fail
  exact bodyPost_ret (piece_res rfl rfl (set4 hb2)) rfl ⟨⟨_, rfl, Hpv.out⟩, fr4 ((hf.alloc _).trans hf2) (Nat.le_refl _)⟩

set_option maxRecDepth 100000 in
set_option maxHeartbeats 4000000 in
/-- Bits and octets. -/
theorem piece_digits (lang : Int) (hlang : lang = 0 ∨ lang = 1) (s : ByteArray) (l : List UInt8) (hs : s.data.toList = l) (K : Nat) (c : UInt8) (t : List UInt8) (hd : l.drop K = c :: t) (w : World) (hm : s.size ≤ 10000) (hsp : isSpace c = false)
    (hb : begins lang (l.drop K) = false) (hle : isLetter c = false) (hdi : isDigit c = false) (h34 : c.toNat ≠ 34) (h39 : c.toNat = 39) : Calls Tryz.prog 43 #[.int .i64 lang, .string s, .int .i64 K] w fun e w' => (∃ v, e = .returned v ∧ PieceVal lang l K v) ∧ Fr w.heap.size w w' := by
  obtain ⟨hK, hc, ht⟩ := ba_at hs K hd
  have hrv : rComment lang l K = .tuple #[.int .i64 0, .bool false] := by unfold rComment; rw [if_neg (by rw [hb]; decide)]
  have Hco : Hid (∀ w, Calls Tryz.prog 69 #[.int .i64 lang, .string s, .int .i64 K] w fun e w' => e = .returned (.tuple #[.int .i64 0, .bool false]) ∧ w = w') := fun w => by have := rComment_any lang hlang s l hs K w hm (by omega); rw [hrv] at this; exact this
  have Hle : Hid (∀ w, Calls Tryz.prog 54 #[.int .u8 (s[K].toNat : Int)] w fun e w' => e = .returned (.bool false) ∧ w = w') := fun w => by have := rLetter_any s[K] w; rw [hc, hle] at this; rw [hc]; exact this
  have Hdi : Hid (∀ w, Calls Tryz.prog 70 #[.int .u8 (s[K].toNat : Int)] w fun e w' => e = .returned (.bool false) ∧ w = w') := fun w => by have := bIsDigit_any s[K] w; rw [hc, hdi] at this; rw [hc]; exact this
  have Hn : Hid (∀ w, Calls Tryz.prog 73 #[.int .i64 lang, .string s, .int .i64 K] w (Pieced lang l K w)) := fun w => (digits_any lang hlang s l hs K w hm hK).mono fun e w' he => piece_digits_val lang l K c t hd hsp hb hle hdi h34 h39 he
  have hb34 : ((s[K].toNat : Int) == 34) = false := by rw [hc]; simp; omega
  have hb39 : ((s[K].toNat : Int) == 39) = true := by rw [hc]; simp; omega
  have hf := Fr.self w
  clear hs hrv hd ht hb hle hc hdi h34 h39
  go_enter Tryz.func43, Tryz.ntmps43
  go_wp2_with (first | (go_at_call 69; refine (Hco.out _).mono ?_; rintro e w' ⟨rfl, rfl⟩) | (go_at_call 54; refine (Hle.out _).mono ?_; rintro e w' ⟨rfl, rfl⟩) | (go_at_call 70; refine (Hdi.out _).mono ?_; rintro e w' ⟨rfl, rfl⟩))
  refine (Hn.out _).mono ?_
  rintro e w2 ⟨⟨pk, pe, pr, pc, rfl, hpv⟩, hf2⟩
  have hb2 := (hf2.2.block w.heap.size (by simp)).trans (heap_alloc_new w _)
  obtain ⟨c0, c1, c2, c3, f0, f1, f2, f3⟩ := piece_cells hb2
  have Hpv := Lib.hid hpv; clear hpv
  go_wp2_with fail
  exact bodyPost_ret (piece_res rfl rfl (set4 hb2)) rfl ⟨⟨_, rfl, Hpv.out⟩, fr4 ((hf.alloc _).trans hf2) (Nat.le_refl _)⟩
end Go.Proofs.YtknbmnckegonlaaGreatDoor
namespace Go.Proofs.YtknbmnckegonlaaGreatDoor
open Go.RowKit

theorem piece_word_val (lang : Int) (l : List UInt8) (K : Nat) (c : UInt8) (t : List UInt8) (hd : l.drop K = c :: t) (hsp : isSpace c = false) (hb : begins lang (l.drop K) = false) (hle : isLetter c = true) :
    (isWord lang ((l.drop K).take (wordLen lang (l.drop K))) = true → PieceVal lang l K (.agg #[.int .i64 1, .int .i64 (nameTo lang l K), .bool false, .int .i64 0])) ∧
    (isWord lang ((l.drop K).take (wordLen lang (l.drop K))) = false → 32 < wordLen lang (l.drop K) → PieceVal lang l K (.agg #[.int .i64 0, .int .i64 (nameTo lang l K), .bool false, .int .i64 7])) ∧
    (isWord lang ((l.drop K).take (wordLen lang (l.drop K))) = false → ¬ 32 < wordLen lang (l.drop K) → PieceVal lang l K (.agg #[.int .i64 0, .int .i64 (nameTo lang l K), .bool false, .int .i64 0])) := by
  have hpc : pieceOf lang (l.drop K) = wordPiece lang (l.drop K) := by
    rw [hd] at hb ⊢; rw [pieceOf, if_neg (by rw [hsp]; decide), if_neg (by rw [hb]; decide), if_pos hle]
  have hlen : wordLen lang (l.drop K) ≤ (l.drop K).length := wordLen_le lang _ (by rw [hd]; simp)
  unfold wordPiece at hpc
  refine ⟨fun h => ?_, fun h1 h2 => ?_, fun h1 h2 => ?_⟩
  · have h32 : ¬ 32 < wordLen lang (l.drop K) := by
      have := words_len lang _ (of_decide_eq_true h)
      rw [List.length_take] at this; omega
    rw [if_neg h32, if_pos h] at hpc
    exact PieceVal.of hpc rfl (fun _ => ⟨rfl, rfl, fun _ => rfl⟩)
  · rw [if_pos h2] at hpc
    exact PieceVal.of hpc rfl (fun h => by cases h)
  · rw [if_neg h2, if_neg (by rw [h1]; decide)] at hpc
    exact PieceVal.of hpc rfl (fun _ => ⟨rfl, rfl, fun _ => rfl⟩)

theorem heap2 (w : World) (o1 o2 : Obj) : ((w.alloc o1).alloc o2).drew.heap[w.heap.size + 1]? = some o2 := by
  have h := heap_alloc_new (w.alloc o1) o2
  have e : (w.alloc o1).heap.size = w.heap.size + 1 := by simp
  rw [e] at h; exact h

set_option maxRecDepth 100000 in
set_option maxHeartbeats 4000000 in
/-- A name, or a word. -/
theorem piece_word (lang : Int) (hlang : lang = 0 ∨ lang = 1) (s : ByteArray) (l : List UInt8) (hs : s.data.toList = l) (K : Nat) (c : UInt8) (t : List UInt8) (hd : l.drop K = c :: t) (w : World) (hm : s.size ≤ 10000) (hsp : isSpace c = false)
    (hb : begins lang (l.drop K) = false) (hle : isLetter c = true) : Calls Tryz.prog 43 #[.int .i64 lang, .string s, .int .i64 K] w fun e w' => (∃ v, e = .returned v ∧ PieceVal lang l K v) ∧ Fr w.heap.size w w' := by
  obtain ⟨hK, hc, ht⟩ := ba_at hs K hd
  have hrv : rComment lang l K = .tuple #[.int .i64 0, .bool false] := by unfold rComment; rw [if_neg (by rw [hb]; decide)]
  have Hco : Hid (∀ w, Calls Tryz.prog 69 #[.int .i64 lang, .string s, .int .i64 K] w fun e w' => e = .returned (.tuple #[.int .i64 0, .bool false]) ∧ w = w') := fun w => by have := rComment_any lang hlang s l hs K w hm (by omega); rw [hrv] at this; exact this
  have Hle : Hid (∀ w, Calls Tryz.prog 54 #[.int .u8 (s[K].toNat : Int)] w fun e w' => e = .returned (.bool true) ∧ w = w') := fun w => by have := rLetter_any s[K] w; rw [hc, hle] at this; rw [hc]; exact this
  have h45 : l[K]? ≠ some 45 := by
    intro h
    have h0 : l[K]? = some c := by have := congrArg (fun x => x[0]?) hd; simpa using this
    rw [h0] at h
    injection h with h
    rw [h] at hle; exact absurd hle (by decide)
  have hne := fun w => nameEnd_any lang hlang s l hs K w hm hK h45
  obtain ⟨E, hE⟩ : ∃ E : Nat, nameTo lang l K = E := ⟨_, rfl⟩
  have hval := piece_word_val lang l K c t hd hsp hb hle
  rw [hE] at hval hne
  have hwl : wordLen lang (l.drop K) = E - K := by rw [← hE]; unfold nameTo; omega
  have hEK : K < E := by rw [← hE]; unfold nameTo wordLen; omega
  have hEs : E ≤ s.size := by
    have := wordLen_le lang (l.drop K) (by rw [hd]; simp)
    rw [List.length_drop, ← ba_len hs] at this; omega
  rw [hwl] at hval
  have hcut : (s.extract K E).data.toList = (l.drop K).take (E - K) := ba_cut hs K E
  rw [← hcut] at hval
  have Hne := Lib.hid hne
  have Hwo := Lib.hid (fun w => rWords_any lang hlang w)
  have hwn : (wordsOf lang).length ≤ 10000 := by unfold wordsOf; split <;> decide
  have hf := Fr.self w
  have b1 : (0 : Int) ≤ (K : Int) := by omega
  have b2 : (K : Int) ≤ (E : Int) := by omega
  have b3 : (E : Int) ≤ (s.size : Int) := by omega
  have sl1 := fun W => run_slice_string (P := Tryz.prog) (w := W) 9 s .i64 .i64 (K : Int) (E : Int) Tryz.underlying9 (by omega) (by omega) (by omega)
  have hha := fun g w (h : Strs w g (wordsOf lang)) => hasText_any (wordsOf lang) g (wordsOf lang).length (s.extract K E) _ rfl w h hwn
  have hiw : decide ((s.extract K E).data.toList ∈ wordsOf lang) = isWord lang (s.extract K E).data.toList := rfl
  rw [hiw] at hha
  obtain ⟨v1, v2, v3⟩ := hval
  rcases hw : isWord lang (s.extract K E).data.toList with _ | _
  · rw [hw] at hha
    by_cases h32 : 32 < E - K
    · have Hpv := Lib.hid (v2 hw h32)
      have h32' : decide ((32 : Int) < (E : Int) - (K : Int)) = true := by simp; omega
      have Hha := Lib.hid hha
      clear hs hrv hd ht hb hc hle hwl hcut hne h45 hE hwn hha hiw v1 v2 v3 hw
      go_enter Tryz.func43, Tryz.ntmps43
      go_wp2_with (first | (go_at_call 69; refine (Hco.out _).mono ?_; rintro e w' ⟨rfl, rfl⟩) | (go_at_call 54; refine (Hle.out _).mono ?_; rintro e w' ⟨rfl, rfl⟩) | (go_at_call 55; refine (Hne.out _).mono ?_; rintro e w' ⟨rfl, rfl⟩))
      go_region_held3 (fun _ => True) (first | trivial)
        (first
          | (go_at_call 27; refine (Hwo.out _).mono ?_; rintro e w2 ⟨rfl, hst, hf2⟩; have hst' : Strs w2 (w.heap.size + 1 + 1) (wordsOf lang) := by simpa using hst)
          | (go_at_call 56; refine (Hha.out _ _ hst').mono ?_; rintro e w3 ⟨rfl, rfl⟩))
      have hfr : Fr w.heap.size w w2 := (((hf.alloc _).alloc _).drew).trans hf2
      have b6 : w2.heap[w.heap.size]? = some (.cells #[.int .i64 0, .int .i64 0, .bool false, .int .i64 0] 79 (0, 0)) := (hf2.2.block w.heap.size (by simp; omega)).trans ((Below.heap_alloc _ _ _ (by simp)).trans (heap_alloc_new w _))
      have b10 : w2.heap[w.heap.size + 1]? = some (.cells #[.int .i64 0, .int .i64 E, .bool false, .int .i64 0] 79 (0, 0)) := (hf2.2.block (w.heap.size + 1) (by simp)).trans (heap2 _ _ _)
      obtain ⟨c0, c1, c2, c3, f0, f1, f2, f3⟩ := piece_cells b6
      obtain ⟨d0, d1, d2, d3, g0, g1, g2, g3⟩ := piece_cells b10
      have hg1 := hfr.2.size
      clear hst hst' hf2
      have bx := block_set b10 3 (.int .i64 7)
      obtain ⟨x0, x1, x2, x3, y0, y1, y2, y3⟩ := piece_cells (w2 := w2.setCell ⟨w.heap.size + 1, 3, none⟩ (.int .i64 7)) bx
      have b6' := (Below.heap_setCell w2 ⟨w.heap.size + 1, 3, none⟩ (.int .i64 7) w.heap.size (by simp)).trans b6
      go_wp2_with fail
      exact bodyPost_ret (piece_res rfl rfl (set4 b6')) rfl ⟨⟨_, rfl, Hpv.out⟩, fr4 (hfr.setCell (p := ⟨w.heap.size + 1, 3, none⟩) (by simp) _) (Nat.le_refl _)⟩
    · have Hpv := Lib.hid (v3 hw h32)
      have h32' : decide ((32 : Int) < (E : Int) - (K : Int)) = false := by simp; omega
      have Hha := Lib.hid hha
      clear hs hrv hd ht hb hc hle hwl hcut hne h45 hE hwn hha hiw v1 v2 v3 hw
      go_enter Tryz.func43, Tryz.ntmps43
      go_wp2_with (first | (go_at_call 69; refine (Hco.out _).mono ?_; rintro e w' ⟨rfl, rfl⟩) | (go_at_call 54; refine (Hle.out _).mono ?_; rintro e w' ⟨rfl, rfl⟩) | (go_at_call 55; refine (Hne.out _).mono ?_; rintro e w' ⟨rfl, rfl⟩))
      go_region_held3 (fun _ => True) (first | trivial)
        (first
          | (go_at_call 27; refine (Hwo.out _).mono ?_; rintro e w2 ⟨rfl, hst, hf2⟩; have hst' : Strs w2 (w.heap.size + 1 + 1) (wordsOf lang) := by simpa using hst)
          | (go_at_call 56; refine (Hha.out _ _ hst').mono ?_; rintro e w3 ⟨rfl, rfl⟩))
      have hfr : Fr w.heap.size w w2 := (((hf.alloc _).alloc _).drew).trans hf2
      have b6 : w2.heap[w.heap.size]? = some (.cells #[.int .i64 0, .int .i64 0, .bool false, .int .i64 0] 79 (0, 0)) := (hf2.2.block w.heap.size (by simp; omega)).trans ((Below.heap_alloc _ _ _ (by simp)).trans (heap_alloc_new w _))
      have b10 : w2.heap[w.heap.size + 1]? = some (.cells #[.int .i64 0, .int .i64 E, .bool false, .int .i64 0] 79 (0, 0)) := (hf2.2.block (w.heap.size + 1) (by simp)).trans (heap2 _ _ _)
      obtain ⟨c0, c1, c2, c3, f0, f1, f2, f3⟩ := piece_cells b6
      obtain ⟨d0, d1, d2, d3, g0, g1, g2, g3⟩ := piece_cells b10
      have hg1 := hfr.2.size
      clear hst hst' hf2
      go_wp2_with fail
      exact bodyPost_ret (piece_res rfl rfl (set4 b6)) rfl ⟨⟨_, rfl, Hpv.out⟩, fr4 hfr (Nat.le_refl _)⟩
  · rw [hw] at hha
    have Hpv := Lib.hid (v1 hw)
    have Hha := Lib.hid hha
    clear hs hrv hd ht hb hc hle hwl hcut hne h45 hE hwn hha hiw v1 v2 v3 hw
    go_enter Tryz.func43, Tryz.ntmps43
    go_wp2_with (first | (go_at_call 69; refine (Hco.out _).mono ?_; rintro e w' ⟨rfl, rfl⟩) | (go_at_call 54; refine (Hle.out _).mono ?_; rintro e w' ⟨rfl, rfl⟩) | (go_at_call 55; refine (Hne.out _).mono ?_; rintro e w' ⟨rfl, rfl⟩))
    go_region_held3 (fun _ => True) (first | trivial)
      (first
        | (go_at_call 27; refine (Hwo.out _).mono ?_; rintro e w2 ⟨rfl, hst, hf2⟩; have hst' : Strs w2 (w.heap.size + 1 + 1) (wordsOf lang) := by simpa using hst)
        | (go_at_call 56; refine (Hha.out _ _ hst').mono ?_; rintro e w3 ⟨rfl, rfl⟩))
    have hfr : Fr w.heap.size w w2 := (((hf.alloc _).alloc _).drew).trans hf2
    have b6 : w2.heap[w.heap.size]? = some (.cells #[.int .i64 0, .int .i64 0, .bool false, .int .i64 0] 79 (0, 0)) := (hf2.2.block w.heap.size (by simp; omega)).trans ((Below.heap_alloc _ _ _ (by simp)).trans (heap_alloc_new w _))
    have b10 : w2.heap[w.heap.size + 1]? = some (.cells #[.int .i64 0, .int .i64 E, .bool false, .int .i64 0] 79 (0, 0)) := (hf2.2.block (w.heap.size + 1) (by simp)).trans (heap2 _ _ _)
    obtain ⟨c0, c1, c2, c3, f0, f1, f2, f3⟩ := piece_cells b6
    obtain ⟨d0, d1, d2, d3, g0, g1, g2, g3⟩ := piece_cells b10
    have hg1 := hfr.2.size
    clear hst hst' hf2
    have bx := block_set b10 0 (.int .i64 1)
    obtain ⟨x0, x1, x2, x3, y0, y1, y2, y3⟩ := piece_cells (w2 := w2.setCell ⟨w.heap.size + 1, 0, none⟩ (.int .i64 1)) bx
    have b6' := (Below.heap_setCell w2 ⟨w.heap.size + 1, 0, none⟩ (.int .i64 1) w.heap.size (by simp)).trans b6
    go_wp2_with fail
    exact bodyPost_ret (piece_res rfl rfl (set4 b6')) rfl ⟨⟨_, rfl, Hpv.out⟩, fr4 (hfr.setCell (p := ⟨w.heap.size + 1, 0, none⟩) (by simp) _) (Nat.le_refl _)⟩
end Go.Proofs.YtknbmnckegonlaaGreatDoor
namespace Go.Proofs.YtknbmnckegonlaaGreatDoor
open Go.RowKit

theorem piece_symbol_val (lang : Int) (l : List UInt8) (K : Nat) (c : UInt8) (t : List UInt8) (hd : l.drop K = c :: t) (hsp : isSpace c = false) (hb : begins lang (l.drop K) = false) (hle : isLetter c = false) (hdi : isDigit c = false) (h34 : c.toNat ≠ 34) (h39 : c.toNat ≠ 39) :
    (symLen lang (l.drop K) = 0 → PieceVal lang l K (.agg #[.int .i64 6, .int .i64 (K : Int), .bool false, .int .i64 8])) ∧
    (symLen lang (l.drop K) ≠ 0 → PieceVal lang l K (.agg #[.int .i64 6, .int .i64 ((K + symLen lang (l.drop K) : Nat) : Int), .bool false, .int .i64 0])) := by
  have hpc : pieceOf lang (l.drop K) = symbolPiece lang (l.drop K) := by
    rw [hd] at hb ⊢; rw [pieceOf, if_neg (by rw [hsp]; decide), if_neg (by rw [hb]; decide), if_neg (by rw [hle]; decide), if_neg (by rw [hdi]; decide), if_neg h34, if_neg h39]
  unfold symbolPiece at hpc
  refine ⟨fun h => ?_, fun h => ?_⟩
  · rw [if_pos h] at hpc
    exact PieceVal.of hpc rfl (fun h => by cases h)
  · rw [if_neg h] at hpc
    exact PieceVal.of hpc rfl (fun _ => ⟨rfl, rfl, fun _ => rfl⟩)
theorem longF_le (l : List UInt8) (ws : List (List UInt8)) (h : ∀ x ∈ ws, x.length ≤ 3) (k : Nat) : longF l (ws.take k) ≤ 3 := by
  rcases maxFold_some (fun x => if x.isPrefixOf l = true then x.length else 0) (ws.take k) 0 with e | ⟨x, hx, e⟩
  · have : longF l (ws.take k) = 0 := e
    omega
  · have e' : longF l (ws.take k) = if x.isPrefixOf l = true then x.length else 0 := e
    have := h x (List.mem_of_mem_take hx)
    rw [e']; split <;> omega

set_option maxRecDepth 100000 in
set_option maxHeartbeats 4000000 in
/-- A symbol. -/
theorem piece_symbol (lang : Int) (hlang : lang = 0 ∨ lang = 1) (s : ByteArray) (l : List UInt8) (hs : s.data.toList = l) (K : Nat) (c : UInt8) (t : List UInt8) (hd : l.drop K = c :: t) (w : World) (hm : s.size ≤ 10000) (hsp : isSpace c = false)
    (hb : begins lang (l.drop K) = false) (hle : isLetter c = false) (hdi : isDigit c = false) (h34 : c.toNat ≠ 34) (h39 : c.toNat ≠ 39) : Calls Tryz.prog 43 #[.int .i64 lang, .string s, .int .i64 K] w fun e w' => (∃ v, e = .returned v ∧ PieceVal lang l K v) ∧ Fr w.heap.size w w' := by
  obtain ⟨hK, hc, ht⟩ := ba_at hs K hd
  have hrv : rComment lang l K = .tuple #[.int .i64 0, .bool false] := by unfold rComment; rw [if_neg (by rw [hb]; decide)]
  have Hco : Hid (∀ w, Calls Tryz.prog 69 #[.int .i64 lang, .string s, .int .i64 K] w fun e w' => e = .returned (.tuple #[.int .i64 0, .bool false]) ∧ w = w') := fun w => by have := rComment_any lang hlang s l hs K w hm (by omega); rw [hrv] at this; exact this
  have Hle : Hid (∀ w, Calls Tryz.prog 54 #[.int .u8 (s[K].toNat : Int)] w fun e w' => e = .returned (.bool false) ∧ w = w') := fun w => by have := rLetter_any s[K] w; rw [hc, hle] at this; rw [hc]; exact this
  have Hdi : Hid (∀ w, Calls Tryz.prog 70 #[.int .u8 (s[K].toNat : Int)] w fun e w' => e = .returned (.bool false) ∧ w = w') := fun w => by have := bIsDigit_any s[K] w; rw [hc, hdi] at this; rw [hc]; exact this
  have hb34 : ((s[K].toNat : Int) == 34) = false := by rw [hc]; simp; omega
  have hb39 : ((s[K].toNat : Int) == 39) = false := by rw [hc]; simp; omega
  have Hsy := Lib.hid (fun w => symbols_any lang hlang w)
  have hmem : ∀ x ∈ putAll (symsOf lang), 1 ≤ x.length ∧ x.length ≤ 3 := fun x hx => syms_len lang x (by have := (putAll_mem x (symsOf lang) []).1 hx; simpa using this)
  have hne : 0 < (putAll (symsOf lang)).length := by rcases hlang with rfl | rfl <;> decide +kernel
  have hlen : (putAll (symsOf lang)).length ≤ 1000 := by
    have := putAll_length (symsOf lang) (symsOf lang).length
    rw [List.take_length] at this
    have h2 : (symsOf lang).length ≤ 1000 := by rcases hlang with rfl | rfl <;> decide
    omega
  have hend : longF (l.drop K) (putAll (symsOf lang)) = symLen lang (l.drop K) := longF_syms lang _
  have Hval := Lib.hid (piece_symbol_val lang l K c t hd hsp hb hle hdi h34 h39)
  have Hhas := Lib.hid (fun (x : List UInt8) (w : World) (h1 : 1 ≤ x.length) (h3 : x.length ≤ 3) => has_any s l hs ⟨x.toArray⟩ x rfl K w (by omega) (by omega) (by rw [ba_size, ba_mk]; omega) (by rw [ba_size, ba_mk]; omega))
  obtain ⟨ss, hss⟩ : ∃ ss, putAll (symsOf lang) = ss := ⟨_, rfl⟩
  rw [hss] at hmem hne hlen hend Hsy
  have hll := fun k => longF_le (l.drop K) ss (fun x hx => (hmem x hx).2) k
  have Hmem := Lib.hid hmem; have Hend := Lib.hid hend; have Hll := Lib.hid hll
  have hf := Fr.self w
  clear hs hrv hd ht hb hle hc hdi h34 h39 hmem hend hll hss
  go_enter Tryz.func43, Tryz.ntmps43
  go_wp2_with (first | (go_at_call 69; refine (Hco.out _).mono ?_; rintro e w' ⟨rfl, rfl⟩) | (go_at_call 54; refine (Hle.out _).mono ?_; rintro e w' ⟨rfl, rfl⟩) | (go_at_call 70; refine (Hdi.out _).mono ?_; rintro e w' ⟨rfl, rfl⟩))
  refine (Hsy.out _).mono ?_
  rintro e w2 ⟨⟨v, rfl, hv⟩, hf2⟩
  obtain ⟨g, cap, rfl, hgl, hcap, hpos, hst⟩ : ∃ g cap, v = .slice (some ⟨g, 0, none⟩) ss.length cap ∧ g < w2.heap.size ∧ ss.length ≤ cap ∧ 0 < ss.length ∧ Strs w2 g ss := by
    rcases hv with ⟨-, h⟩ | h
    · rw [h] at hne; exact absurd hne (by decide)
    · exact h
  have hb2 := (hf2.2.block w.heap.size (by simp)).trans (heap_alloc_new w _)
  obtain ⟨c0, c1, c2, c3, f0, f1, f2, f3⟩ := piece_cells hb2
  have hfr : Fr w.heap.size w w2 := (hf.alloc _).trans hf2
  have Hst := Lib.hid hst; clear hst hv hf2
  go_wp2_with fail
  go_loop [13, 14] (fun e i => ∃ k : Nat, k ≤ ss.length ∧ i = .int .i64 k ∧ e = .int .i64 ((K + longF (l.drop K) (ss.take k) : Nat) : Int)) (fun _ i => ss.length - (intOf i).toNat)
  case atStart => exact ⟨0, by omega, rfl, rfl⟩
  case round =>
    obtain ⟨k, hk, rfl, rfl⟩ := hrel
    have hlk := Hll.out k
    by_cases hlt : k < ss.length
    · obtain ⟨x, hx⟩ : ∃ x, ss[k]? = some x := ⟨_, List.getElem?_eq_getElem hlt⟩
      have hcx := Hst.out k x hx
      obtain ⟨hx1, hx3⟩ := Hmem.out x (List.mem_of_getElem? hx)
      have hsn := longF_snoc (l.drop K) ss hx
      have Hha := Lib.hid (Hhas.out x w2 hx1 hx3)
      have hxs : (ByteArray.mk x.toArray).size = x.length := by rw [ba_size, ba_mk]
      have Hxs := Lib.hid hxs
      obtain ⟨A, hA⟩ : ∃ A, longF (l.drop K) (ss.take k) = A := ⟨_, rfl⟩
      rw [hA] at hsn hlk
      rw [hA]
      rcases hp : x.isPrefixOf (l.drop K) with _ | _
      · rw [hp] at Hha hsn
        simp only [Bool.false_eq_true, if_false, Nat.max_zero] at hsn
        have Hsn := Lib.hid hsn
        clear hx hsn hp hxs hA
        go_wp2_with (go_at_call 74; refine Hha.out.mono ?_; rintro e w' ⟨rfl, rfl⟩)
        go_round
        case rel => exact ⟨k + 1, by omega, by go_num, by rw [Hsn.out]; go_num⟩
        case measure => simp [intOf] <;> omega
      · rw [hp] at Hha hsn
        simp only [if_true] at hsn
        have Hsn := Lib.hid hsn
        clear hx hsn hp hA
        go_wp2_with (go_at_call 74; refine Hha.out.mono ?_; rintro e w' ⟨rfl, rfl⟩)
        go_round
        case rel => exact ⟨k + 1, by omega, by go_num, by rw [Hsn.out]; congr 1; omega⟩
        case measure => simp [intOf] <;> omega
    · have hke : ss.take k = ss := List.take_of_length_le (by omega)
      rw [hke, Hend.out]
      have hsl : symLen lang (l.drop K) ≤ 3 := by rw [← Hend.out, ← hke]; exact hlk
      have Hke := Lib.hid hke; clear hke
      by_cases h0 : symLen lang (l.drop K) = 0
      · have Hpv := Lib.hid (Hval.out.1 h0)
        rw [h0]
        clear hlk h0 hsl
        have hbe : ((K : Int) == (K : Int)) = true := by simp
        go_wp2_with (go_at_call 39; refine (count_any _ _).mono ?_; rintro e w' ⟨rfl, rfl⟩)
        exact bodyPost_ret (piece_res rfl rfl (set4 hb2)) rfl ⟨⟨_, rfl, Hpv.out⟩, fr4 hfr (Nat.le_refl _)⟩
      · have Hpv := Lib.hid (Hval.out.2 h0)
        obtain ⟨A, hA⟩ : ∃ A, symLen lang (l.drop K) = A := ⟨_, rfl⟩
        rw [hA] at hsl h0 Hpv ⊢
        have hbe : (((K + A : Nat) : Int) == (K : Int)) = false := by simp; omega
        clear hlk hA
        go_wp2_with (go_at_call 39; refine (count_any _ _).mono ?_; rintro e w' ⟨rfl, rfl⟩)
        exact bodyPost_ret (piece_res rfl rfl (set4 hb2)) rfl ⟨⟨_, rfl, Hpv.out⟩, fr4 hfr (Nat.le_refl _)⟩

/-- The reference's piece, where there is no blank. -/
theorem piece_any (lang : Int) (hlang : lang = 0 ∨ lang = 1) (s : ByteArray) (l : List UInt8) (hs : s.data.toList = l) (K : Nat) (c : UInt8) (t : List UInt8) (hd : l.drop K = c :: t) (w : World) (hm : s.size ≤ 10000) (hsp : isSpace c = false) :
    Calls Tryz.prog 43 #[.int .i64 lang, .string s, .int .i64 K] w fun e w' => (∃ v, e = .returned v ∧ PieceVal lang l K v) ∧ Fr w.heap.size w w' := by
  cases hb : begins lang (l.drop K) with
  | true => exact piece_comment lang hlang s l hs K c t hd w hm hsp hb
  | false =>
    cases hle : isLetter c with
    | true => exact piece_word lang hlang s l hs K c t hd w hm hsp hb hle
    | false =>
      cases hdi : isDigit c with
      | true => exact piece_number lang hlang s l hs K c t hd w hm hsp hb hle hdi
      | false =>
        by_cases h34 : c.toNat = 34
        · exact piece_quoted lang hlang s l hs K c t hd w hm hsp hb hle hdi h34
        · by_cases h39 : c.toNat = 39
          · exact piece_digits lang hlang s l hs K c t hd w hm hsp hb hle hdi h34 h39
          · exact piece_symbol lang hlang s l hs K c t hd w hm hsp hb hle hdi h34 h39
end Go.Proofs.YtknbmnckegonlaaGreatDoor
