/- The contract on the reference's piece. -/
import Derived.Test.YtknbmnckegonlaaGreatDoorRefL
import Derived.Test.YtknbmnckegonlaaGreatDoorRefE
import Derived.Test.YtknbmnckegonlaaGreatDoorRefC
import Derived.Test.YtknbmnckegonlaaGreatDoorPlace
import Derived.Lib.Builder
namespace Go.Proofs.YtknbmnckegonlaaGreatDoor
open Go.RowKit

theorem piece_cells {w2 : World} {g : Nat} {a b c d : Value} (h : w2.heap[g]? = some (.cells #[a, b, c, d] 79 (0, 0))) :
    w2.cell? ⟨g, 0, none⟩ = some a ∧ w2.cell? ⟨g, 1, none⟩ = some b ∧ w2.cell? ⟨g, 2, none⟩ = some c ∧ w2.cell? ⟨g, 3, none⟩ = some d ∧
      w2.frozen? ⟨g, 0, none⟩ = false ∧ w2.frozen? ⟨g, 1, none⟩ = false ∧ w2.frozen? ⟨g, 2, none⟩ = false ∧ w2.frozen? ⟨g, 3, none⟩ = false := by
  refine ⟨?_, ?_, ?_, ?_, Lib.frozen_of_heap h 0, Lib.frozen_of_heap h 1, Lib.frozen_of_heap h 2, Lib.frozen_of_heap h 3⟩ <;> rw [Lib.cell_of_heap h] <;> rfl

theorem block_set {w : World} {g : Nat} {cs : Array Value} {t : TypeId} {fr : Nat × Nat} (h : w.heap[g]? = some (.cells cs t fr)) (i : Nat) (v : Value) : (w.setCell ⟨g, i, none⟩ v).heap[g]? = some (.cells (cs.setIfInBounds i v) t fr) := by
  simp [World.setCell, Array.getElem?_modify, h]
theorem set4 {w2 : World} {g : Nat} {a b c d a' b' c' d' : Value} (h : w2.heap[g]? = some (.cells #[a, b, c, d] 79 (0, 0))) :
    ((((w2.setCell ⟨g, 0, none⟩ a').setCell ⟨g, 1, none⟩ b').setCell ⟨g, 2, none⟩ c').setCell ⟨g, 3, none⟩ d').heap[g]? = some (.cells #[a', b', c', d'] 79 (0, 0)) :=
  block_set (block_set (block_set (block_set h 0 a') 1 b') 2 c') 3 d'
theorem fr4 {w0 w2 : World} {B g : Nat} {a' b' c' d' : Value} (h : Fr B w0 w2) (hg : B ≤ g) : Fr B w0 ((((w2.setCell ⟨g, 0, none⟩ a').setCell ⟨g, 1, none⟩ b').setCell ⟨g, 2, none⟩ c').setCell ⟨g, 3, none⟩ d') :=
  (((h.setCell (p := ⟨g, 0, none⟩) hg _).setCell (p := ⟨g, 1, none⟩) hg _).setCell (p := ⟨g, 2, none⟩) hg _).setCell (p := ⟨g, 3, none⟩) hg _

set_option maxRecDepth 100000 in
set_option maxHeartbeats 4000000 in
/-- A comment. -/
theorem piece_comment (lang : Int) (hlang : lang = 0 ∨ lang = 1) (s : ByteArray) (l : List UInt8) (hs : s.data.toList = l) (K : Nat) (c : UInt8) (t : List UInt8) (hd : l.drop K = c :: t) (w : World) (hm : s.size ≤ 10000) (hsp : isSpace c = false)
    (hb : begins lang (l.drop K) = true) : Calls Tryz.prog 43 #[.int .i64 lang, .string s, .int .i64 K] w fun e w' => (∃ v, e = .returned v ∧ PieceVal lang l K v) ∧ Fr w.heap.size w w' := by
  have hK : K ≤ s.size := by
    rw [ba_len hs]
    rcases Nat.lt_or_ge K l.length with h | h
    · omega
    · rw [List.drop_eq_nil_of_le h] at hd; cases hd
  have hco := fun w => rComment_any lang hlang s l hs K w hm hK
  have hrv : rComment lang l K = comRes K (commentLen lang (l.drop K)) := by unfold rComment; rw [if_pos hb]
  have hf := Fr.self w
  have hpc : pieceOf lang (l.drop K) = match commentLen lang (l.drop K) with | some n => ⟨8, n, 0⟩ | none => ⟨8, 0, 39⟩ := by
    rw [hd] at hb ⊢; rw [pieceOf, if_neg (by rw [hsp]; decide), if_pos hb]; cases commentLen lang (c :: t) <;> rfl
  rcases hc : commentLen lang (l.drop K) with _ | n
  · rw [hc] at hrv hpc
    have Hco : Hid (∀ w, Calls Tryz.prog 69 #[.int .i64 lang, .string s, .int .i64 K] w fun e w' => e = .returned (.tuple #[.int .i64 0, .bool true]) ∧ w = w') := fun w => by have := hco w; rw [hrv] at this; exact this
    have Hpv : Hid (PieceVal lang l K (.agg #[.int .i64 0, .int .i64 0, .bool true, .int .i64 39])) := PieceVal.of hpc rfl (fun h => by cases h)
    clear hco hrv hpc hc hs hd hb
    go_enter Tryz.func43, Tryz.ntmps43
    go_wp2_with (first | (go_at_call 69; refine (Hco.out _).mono ?_; rintro e w' ⟨rfl, rfl⟩) | (go_at_call 39; refine (count_any _ _).mono ?_; rintro e w' ⟨rfl, rfl⟩))
    exact bodyPost_ret (piece_res rfl rfl (heap_alloc_new _ _)) rfl ⟨⟨_, rfl, Hpv.out⟩, hf.alloc _⟩
  · rw [hc] at hrv hpc
    have hn2 : 1 ≤ n := by
      have hl := pieceOf_len lang c t (by rw [← hd, hpc])
      rw [← hd, hpc] at hl; exact hl.1
    have Hco : Hid (∀ w, Calls Tryz.prog 69 #[.int .i64 lang, .string s, .int .i64 K] w fun e w' => e = .returned (.tuple #[.int .i64 ((K + n : Nat) : Int), .bool true]) ∧ w = w') := fun w => by have := hco w; rw [hrv] at this; exact this
    have Hpv : Hid (PieceVal lang l K (.agg #[.int .i64 0, .int .i64 ((K + n : Nat) : Int), .bool true, .int .i64 0])) := PieceVal.of hpc rfl (fun _ => ⟨rfl, rfl, fun h => absurd rfl h⟩)
    have he0 : (((K + n : Nat) : Int) == 0) = false := by simp; omega
    obtain ⟨E, hE⟩ : ∃ E : Nat, K + n = E := ⟨_, rfl⟩
    rw [hE] at Hco Hpv he0
    clear hco hrv hpc hc hs hd hb hE
    go_enter Tryz.func43, Tryz.ntmps43
    go_wp2_with (first | (go_at_call 69; refine (Hco.out _).mono ?_; rintro e w' ⟨rfl, rfl⟩) | (go_at_call 39; refine (count_any _ _).mono ?_; rintro e w' ⟨rfl, rfl⟩))
    exact bodyPost_ret (piece_res rfl rfl (heap_alloc_new _ _)) rfl ⟨⟨_, rfl, Hpv.out⟩, hf.alloc _⟩

set_option maxRecDepth 100000 in
set_option maxHeartbeats 4000000 in
/-- A number. -/
theorem piece_number (lang : Int) (hlang : lang = 0 ∨ lang = 1) (s : ByteArray) (l : List UInt8) (hs : s.data.toList = l) (K : Nat) (c : UInt8) (t : List UInt8) (hd : l.drop K = c :: t) (w : World) (hm : s.size ≤ 10000) (hsp : isSpace c = false)
    (hb : begins lang (l.drop K) = false) (hle : isLetter c = false) (hdi : isDigit c = true) : Calls Tryz.prog 43 #[.int .i64 lang, .string s, .int .i64 K] w fun e w' => (∃ v, e = .returned v ∧ PieceVal lang l K v) ∧ Fr w.heap.size w w' := by
  obtain ⟨hK, hc, ht⟩ := ba_at hs K hd
  have hrv : rComment lang l K = .tuple #[.int .i64 0, .bool false] := by unfold rComment; rw [if_neg (by rw [hb]; decide)]
  have Hco : Hid (∀ w, Calls Tryz.prog 69 #[.int .i64 lang, .string s, .int .i64 K] w fun e w' => e = .returned (.tuple #[.int .i64 0, .bool false]) ∧ w = w') := fun w => by have := rComment_any lang hlang s l hs K w hm (by omega); rw [hrv] at this; exact this
  have hpc : pieceOf lang (l.drop K) = numberPiece (l.drop K) := by
    rw [hd] at hb ⊢; rw [pieceOf, if_neg (by rw [hsp]; decide), if_neg (by rw [hb]; decide), if_neg (by rw [hle]; decide), if_pos hdi]
  have Hle : Hid (∀ w, Calls Tryz.prog 54 #[.int .u8 (s[K].toNat : Int)] w fun e w' => e = .returned (.bool false) ∧ w = w') := fun w => by have := rLetter_any s[K] w; rw [hc, hle] at this; rw [hc]; exact this
  have Hdi : Hid (∀ w, Calls Tryz.prog 70 #[.int .u8 (s[K].toNat : Int)] w fun e w' => e = .returned (.bool true) ∧ w = w') := fun w => by have := bIsDigit_any s[K] w; rw [hc, hdi] at this; rw [hc]; exact this
  have hf := Fr.self w
  have Hs := Lib.hid hs
  have hnl : numTail (l.drop K) = numLen (l.drop K) := by rw [hd, numTail, if_pos hdi, numLen]; rfl
  have hnum : ∀ k, K < k → k ≤ s.size → numTail (l.drop K) + K = k → ∀ w, Calls Tryz.prog 71 #[.string s, .int .i64 K, .int .i64 k] w fun e w' => (∃ (pk pe pr : Int) (pc : Bool), e = .returned (.agg #[.int .i64 pk, .int .i64 pe, .bool pc, .int .i64 pr]) ∧ PieceVal lang l K (.agg #[.int .i64 pk, .int .i64 pe, .bool pc, .int .i64 pr])) ∧ Fr w.heap.size w w' := by
    intro k hk1 hk2 hk3 w
    have hkn : k - K = numLen (l.drop K) := by omega
    refine (rNumber_any s l hs K k w hm hk1 hk2 (by rw [hkn, ← hnl]; exact numTail_digits _)).mono fun e w' he => ⟨⟨_, _, _, _, he.1, ?_⟩, he.2⟩
    rw [hkn]
    have hlen : ((l.drop K).take (numLen (l.drop K))).length = numLen (l.drop K) := by rw [List.length_take, List.length_drop, ← ba_len hs]; omega
    have hh : ((l.drop K).take (numLen (l.drop K))).head? = (l.drop K).head? := by
      rw [hd]; unfold numLen; rw [List.take_succ_cons]; rfl
    refine PieceVal.of hpc ?_ ?_
    · unfold numErr numberPiece
      rw [hlen, hh]
      split
      · rfl
      · split <;> rfl
    · intro h
      unfold numberPiece at h ⊢
      split at h
      · cases h
      · split at h
        · cases h
        · rename_i h1 h2
          rw [if_neg h1, if_neg h2]
          refine ⟨?_, rfl, fun _ => rfl⟩
          show (k : Int) = ((K + numLen (l.drop K) : Nat) : Int)
          omega
  have Hnum := Lib.hid hnum
  have H0 : 1 ≤ numTail (l.drop K) := by rw [hnl]; unfold numLen; omega
  clear hs hpc hnl hrv hnum hd ht hb hle hc
  go_enter Tryz.func43, Tryz.ntmps43
  go_wp2_with (first | (go_at_call 69; refine (Hco.out _).mono ?_; rintro e w' ⟨rfl, rfl⟩) | (go_at_call 54; refine (Hle.out _).mono ?_; rintro e w' ⟨rfl, rfl⟩) | (go_at_call 70; refine (Hdi.out _).mono ?_; rintro e w' ⟨rfl, rfl⟩))
  go_loop [11] (fun i => ∃ k : Nat, K ≤ k ∧ k ≤ s.size ∧ i = .int .i64 k ∧ Hid (numTail (l.drop K) + K = numTail (l.drop k) + k)) (fun i => s.size - (intOf i).toNat)
  case atStart => exact ⟨K, by omega, by omega, rfl, rfl⟩
  case round =>
    obtain ⟨k, hk1, hk, rfl, HR⟩ := hrel
    rcases hdk : l.drop k with _ | ⟨d, u⟩
    · have hge := ba_end Hs.out k hdk
      have hk3 : numTail (l.drop K) + K = k := by rw [HR.out, hdk, numTail]; omega
      have Hn := Lib.hid (Hnum.out k (by omega) hk hk3)
      clear hdk hk3
      go_wp2_with fail
      refine (Hn.out _).mono ?_
      rintro e w2 ⟨⟨pk, pe, pr, pc, rfl, hpv⟩, hf2⟩
      have hb2 := (hf2.2.block w.heap.size (by simp)).trans (heap_alloc_new w _)
      obtain ⟨c0, c1, c2, c3, f0, f1, f2, f3⟩ := piece_cells hb2
      have Hpv := Lib.hid hpv; clear hpv
      go_wp2_with fail
      exact bodyPost_ret (piece_res rfl rfl (set4 hb2)) rfl ⟨⟨_, rfl, Hpv.out⟩, fr4 ((hf.alloc _).trans hf2) (Nat.le_refl _)⟩
    · obtain ⟨hlt, hcd, hu⟩ := ba_at Hs.out k hdk
      by_cases hdd : isDigit d = true
      · have Hdd : Hid (∀ w, Calls Tryz.prog 70 #[.int .u8 (s[k].toNat : Int)] w fun e w' => e = .returned (.bool true) ∧ w = w') := fun w => by have := bIsDigit_any s[k] w; rw [hcd, hdd] at this; rw [hcd]; exact this
        have Hn2 : Hid (numTail (l.drop K) + K = numTail (l.drop (k + 1)) + (k + 1)) := by unfold Hid; rw [HR.out, hdk, numTail, if_pos hdd, hu]; omega
        clear hdk hcd hu hdd
        go_wp2_with (go_at_call 70; refine (Hdd.out _).mono ?_; rintro e w' ⟨rfl, rfl⟩)
        go_round
        case rel => exact ⟨k + 1, by omega, by omega, by go_num, Hn2⟩
        case measure => simp [intOf] <;> omega
      · have hdf : isDigit d = false := by simpa using hdd
        have Hdd : Hid (∀ w, Calls Tryz.prog 70 #[.int .u8 (s[k].toNat : Int)] w fun e w' => e = .returned (.bool false) ∧ w = w') := fun w => by have := bIsDigit_any s[k] w; rw [hcd, hdf] at this; rw [hcd]; exact this
        have hk3 : numTail (l.drop K) + K = k := by rw [HR.out, hdk, numTail, if_neg hdd]; omega
        clear hcd hu hdd hdf
        have hKk : K < k := by have := H0; omega
        have Hn := Lib.hid (Hnum.out k hKk hk hk3)
        clear hdk hk3
        go_wp2_with (go_at_call 70; refine (Hdd.out _).mono ?_; rintro e w' ⟨rfl, rfl⟩)
        refine (Hn.out _).mono ?_
        rintro e w2 ⟨⟨pk, pe, pr, pc, rfl, hpv⟩, hf2⟩
        have hb2 := (hf2.2.block w.heap.size (by simp)).trans (heap_alloc_new w _)
        obtain ⟨c0, c1, c2, c3, f0, f1, f2, f3⟩ := piece_cells hb2
        have Hpv := Lib.hid hpv; clear hpv
        go_wp2_with fail
        exact bodyPost_ret (piece_res rfl rfl (set4 hb2)) rfl ⟨⟨_, rfl, Hpv.out⟩, fr4 ((hf.alloc _).trans hf2) (Nat.le_refl _)⟩
end Go.Proofs.YtknbmnckegonlaaGreatDoor
