/- The contract on the reference's piece: names and words. -/
import Derived.Test.YtknbmnckegonlaaGreatDoorRefN
namespace Go.Proofs.YtknbmnckegonlaaGreatDoor
open Go.RowKit

theorem piece_word_val (lang : Int) (l : List UInt8) (K : Nat) (c : UInt8) (t : List UInt8) (hd : l.drop K = c :: t) (hsp : isSpace c = false) (hb : begins lang (l.drop K) = false) (hle : isLetter c = true) :
    (isWord lang ((l.drop K).take (wordLen lang (l.drop K))) = true → PieceVal lang l K (.agg #[.int .i64 1, .int .i64 (nameTo lang l K), .bool false, .int .i64 0])) ∧
    (isWord lang ((l.drop K).take (wordLen lang (l.drop K))) = false → 32 < wordLen lang (l.drop K) → PieceVal lang l K (.agg #[.int .i64 0, .int .i64 (nameTo lang l K), .bool false, .int .i64 7])) ∧
    (isWord lang ((l.drop K).take (wordLen lang (l.drop K))) = false → ¬ 32 < wordLen lang (l.drop K) → PieceVal lang l K (.agg #[.int .i64 0, .int .i64 (nameTo lang l K), .bool false, .int .i64 0])) := by
  have hpc : pieceOf lang (l.drop K) = wordPiece lang (l.drop K) := by
    rw [hd] at hb ⊢; rw [pieceOf, if_neg (by rw [hsp]; decide), if_neg (by rw [hb]; decide), if_pos hle]
  have hlen : wordLen lang (l.drop K) ≤ (l.drop K).length := wordLen_le lang _ (by rw [hd]; simp)
  unfold wordPiece at hpc
  refine ⟨fun h => ?_, fun h1 h2 => ?_, fun h1 h2 => ?_⟩
  · have h32 : ¬ 32 < wordLen lang (l.drop K) := by
      have := words_len lang _ (of_decide_eq_true h)
      rw [List.length_take] at this; omega
    rw [if_neg h32, if_pos h] at hpc
    exact PieceVal.of hpc rfl (fun _ => ⟨rfl, rfl, fun _ => rfl⟩)
  · rw [if_pos h2] at hpc
    exact PieceVal.of hpc rfl (fun h => by cases h)
  · rw [if_neg h2, if_neg (by rw [h1]; decide)] at hpc
    exact PieceVal.of hpc rfl (fun _ => ⟨rfl, rfl, fun _ => rfl⟩)

theorem heap2 (w : World) (o1 o2 : Obj) : ((w.alloc o1).alloc o2).drew.heap[w.heap.size + 1]? = some o2 := by
  have h := heap_alloc_new (w.alloc o1) o2
  have e : (w.alloc o1).heap.size = w.heap.size + 1 := by simp
  rw [e] at h; exact h

set_option maxRecDepth 100000 in
set_option maxHeartbeats 4000000 in
/-- A name, or a word. -/
theorem piece_word (lang : Int) (hlang : lang = 0 ∨ lang = 1) (s : ByteArray) (l : List UInt8) (hs : s.data.toList = l) (K : Nat) (c : UInt8) (t : List UInt8) (hd : l.drop K = c :: t) (w : World) (hm : s.size ≤ 10000) (hsp : isSpace c = false)
    (hb : begins lang (l.drop K) = false) (hle : isLetter c = true) : Calls Tryz.prog 43 #[.int .i64 lang, .string s, .int .i64 K] w fun e w' => (∃ v, e = .returned v ∧ PieceVal lang l K v) ∧ Fr w.heap.size w w' := by
  obtain ⟨hK, hc, ht⟩ := ba_at hs K hd
  have hrv : rComment lang l K = .tuple #[.int .i64 0, .bool false] := by unfold rComment; rw [if_neg (by rw [hb]; decide)]
  have Hco : Hid (∀ w, Calls Tryz.prog 69 #[.int .i64 lang, .string s, .int .i64 K] w fun e w' => e = .returned (.tuple #[.int .i64 0, .bool false]) ∧ w = w') := fun w => by have := rComment_any lang hlang s l hs K w hm (by omega); rw [hrv] at this; exact this
  have Hle : Hid (∀ w, Calls Tryz.prog 54 #[.int .u8 (s[K].toNat : Int)] w fun e w' => e = .returned (.bool true) ∧ w = w') := fun w => by have := rLetter_any s[K] w; rw [hc, hle] at this; rw [hc]; exact this
  have h45 : l[K]? ≠ some 45 := by
    intro h
    have h0 : l[K]? = some c := by have := congrArg (fun x => x[0]?) hd; simpa using this
    rw [h0] at h
    injection h with h
    rw [h] at hle; exact absurd hle (by decide)
  have hne := fun w => nameEnd_any lang hlang s l hs K w hm hK h45
  obtain ⟨E, hE⟩ : ∃ E : Nat, nameTo lang l K = E := ⟨_, rfl⟩
  have hval := piece_word_val lang l K c t hd hsp hb hle
  rw [hE] at hval hne
  have hwl : wordLen lang (l.drop K) = E - K := by rw [← hE]; unfold nameTo; omega
  have hEK : K < E := by rw [← hE]; unfold nameTo wordLen; omega
  have hEs : E ≤ s.size := by
    have := wordLen_le lang (l.drop K) (by rw [hd]; simp)
    rw [List.length_drop, ← ba_len hs] at this; omega
  rw [hwl] at hval
  have hcut : (s.extract K E).data.toList = (l.drop K).take (E - K) := ba_cut hs K E
  rw [← hcut] at hval
  have Hne := Lib.hid hne
  have Hwo := Lib.hid (fun w => rWords_any lang hlang w)
  have hwn : (wordsOf lang).length ≤ 10000 := by unfold wordsOf; split <;> decide
  have hf := Fr.self w
  have b1 : (0 : Int) ≤ (K : Int) := by omega
  have b2 : (K : Int) ≤ (E : Int) := by omega
  have b3 : (E : Int) ≤ (s.size : Int) := by omega
  have sl1 := fun W => run_slice_string (P := Tryz.prog) (w := W) 9 s .i64 .i64 (K : Int) (E : Int) Tryz.underlying9 (by omega) (by omega) (by omega)
  have hha := fun g w (h : Strs w g (wordsOf lang)) => hasText_any (wordsOf lang) g (wordsOf lang).length (s.extract K E) _ rfl w h hwn
  have hiw : decide ((s.extract K E).data.toList ∈ wordsOf lang) = isWord lang (s.extract K E).data.toList := rfl
  rw [hiw] at hha
  obtain ⟨v1, v2, v3⟩ := hval
  rcases hw : isWord lang (s.extract K E).data.toList with _ | _
  · rw [hw] at hha
    by_cases h32 : 32 < E - K
    · have Hpv := Lib.hid (v2 hw h32)
      have h32' : decide ((32 : Int) < (E : Int) - (K : Int)) = true := by simp; omega
      have Hha := Lib.hid hha
      clear hs hrv hd ht hb hc hle hwl hcut hne h45 hE hwn hha hiw v1 v2 v3 hw
      go_enter Tryz.func43, Tryz.ntmps43
      go_wp2_with (first | (go_at_call 69; refine (Hco.out _).mono ?_; rintro e w' ⟨rfl, rfl⟩) | (go_at_call 54; refine (Hle.out _).mono ?_; rintro e w' ⟨rfl, rfl⟩) | (go_at_call 55; refine (Hne.out _).mono ?_; rintro e w' ⟨rfl, rfl⟩))
      go_region_held3 (fun _ => True) (first | trivial)
        (first
          | (go_at_call 27; refine (Hwo.out _).mono ?_; rintro e w2 ⟨rfl, hst, hf2⟩; have hst' : Strs w2 (w.heap.size + 1 + 1) (wordsOf lang) := by simpa using hst)
          | (go_at_call 56; refine (Hha.out _ _ hst').mono ?_; rintro e w3 ⟨rfl, rfl⟩))
      have hfr : Fr w.heap.size w w2 := (((hf.alloc _).alloc _).drew).trans hf2
      have b6 : w2.heap[w.heap.size]? = some (.cells #[.int .i64 0, .int .i64 0, .bool false, .int .i64 0] 79 (0, 0)) := (hf2.2.block w.heap.size (by simp; omega)).trans ((Below.heap_alloc _ _ _ (by simp)).trans (heap_alloc_new w _))
      have b10 : w2.heap[w.heap.size + 1]? = some (.cells #[.int .i64 0, .int .i64 E, .bool false, .int .i64 0] 79 (0, 0)) := (hf2.2.block (w.heap.size + 1) (by simp)).trans (heap2 _ _ _)
      obtain ⟨c0, c1, c2, c3, f0, f1, f2, f3⟩ := piece_cells b6
      obtain ⟨d0, d1, d2, d3, g0, g1, g2, g3⟩ := piece_cells b10
      have hg1 := hfr.2.size
      clear hst hst' hf2
      have bx := block_set b10 3 (.int .i64 7)
      obtain ⟨x0, x1, x2, x3, y0, y1, y2, y3⟩ := piece_cells (w2 := w2.setCell ⟨w.heap.size + 1, 3, none⟩ (.int .i64 7)) bx
      have b6' := (Below.heap_setCell w2 ⟨w.heap.size + 1, 3, none⟩ (.int .i64 7) w.heap.size (by simp)).trans b6
      go_wp2_with fail
      exact bodyPost_ret (piece_res rfl rfl (set4 b6')) rfl ⟨⟨_, rfl, Hpv.out⟩, fr4 (hfr.setCell (p := ⟨w.heap.size + 1, 3, none⟩) (by simp) _) (Nat.le_refl _)⟩
    · have Hpv := Lib.hid (v3 hw h32)
      have h32' : decide ((32 : Int) < (E : Int) - (K : Int)) = false := by simp; omega
      have Hha := Lib.hid hha
      clear hs hrv hd ht hb hc hle hwl hcut hne h45 hE hwn hha hiw v1 v2 v3 hw
      go_enter Tryz.func43, Tryz.ntmps43
      go_wp2_with (first | (go_at_call 69; refine (Hco.out _).mono ?_; rintro e w' ⟨rfl, rfl⟩) | (go_at_call 54; refine (Hle.out _).mono ?_; rintro e w' ⟨rfl, rfl⟩) | (go_at_call 55; refine (Hne.out _).mono ?_; rintro e w' ⟨rfl, rfl⟩))
      go_region_held3 (fun _ => True) (first | trivial)
        (first
          | (go_at_call 27; refine (Hwo.out _).mono ?_; rintro e w2 ⟨rfl, hst, hf2⟩; have hst' : Strs w2 (w.heap.size + 1 + 1) (wordsOf lang) := by simpa using hst)
          | (go_at_call 56; refine (Hha.out _ _ hst').mono ?_; rintro e w3 ⟨rfl, rfl⟩))
      have hfr : Fr w.heap.size w w2 := (((hf.alloc _).alloc _).drew).trans hf2
      have b6 : w2.heap[w.heap.size]? = some (.cells #[.int .i64 0, .int .i64 0, .bool false, .int .i64 0] 79 (0, 0)) := (hf2.2.block w.heap.size (by simp; omega)).trans ((Below.heap_alloc _ _ _ (by simp)).trans (heap_alloc_new w _))
      have b10 : w2.heap[w.heap.size + 1]? = some (.cells #[.int .i64 0, .int .i64 E, .bool false, .int .i64 0] 79 (0, 0)) := (hf2.2.block (w.heap.size + 1) (by simp)).trans (heap2 _ _ _)
      obtain ⟨c0, c1, c2, c3, f0, f1, f2, f3⟩ := piece_cells b6
      obtain ⟨d0, d1, d2, d3, g0, g1, g2, g3⟩ := piece_cells b10
      have hg1 := hfr.2.size
      clear hst hst' hf2
      go_wp2_with fail
      exact bodyPost_ret (piece_res rfl rfl (set4 b6)) rfl ⟨⟨_, rfl, Hpv.out⟩, fr4 hfr (Nat.le_refl _)⟩
  · rw [hw] at hha
    have Hpv := Lib.hid (v1 hw)
    have Hha := Lib.hid hha
    clear hs hrv hd ht hb hc hle hwl hcut hne h45 hE hwn hha hiw v1 v2 v3 hw
    go_enter Tryz.func43, Tryz.ntmps43
    go_wp2_with (first | (go_at_call 69; refine (Hco.out _).mono ?_; rintro e w' ⟨rfl, rfl⟩) | (go_at_call 54; refine (Hle.out _).mono ?_; rintro e w' ⟨rfl, rfl⟩) | (go_at_call 55; refine (Hne.out _).mono ?_; rintro e w' ⟨rfl, rfl⟩))
    go_region_held3 (fun _ => True) (first | trivial)
      (first
        | (go_at_call 27; refine (Hwo.out _).mono ?_; rintro e w2 ⟨rfl, hst, hf2⟩; have hst' : Strs w2 (w.heap.size + 1 + 1) (wordsOf lang) := by simpa using hst)
        | (go_at_call 56; refine (Hha.out _ _ hst').mono ?_; rintro e w3 ⟨rfl, rfl⟩))
    have hfr : Fr w.heap.size w w2 := (((hf.alloc _).alloc _).drew).trans hf2
    have b6 : w2.heap[w.heap.size]? = some (.cells #[.int .i64 0, .int .i64 0, .bool false, .int .i64 0] 79 (0, 0)) := (hf2.2.block w.heap.size (by simp; omega)).trans ((Below.heap_alloc _ _ _ (by simp)).trans (heap_alloc_new w _))
    have b10 : w2.heap[w.heap.size + 1]? = some (.cells #[.int .i64 0, .int .i64 E, .bool false, .int .i64 0] 79 (0, 0)) := (hf2.2.block (w.heap.size + 1) (by simp)).trans (heap2 _ _ _)
    obtain ⟨c0, c1, c2, c3, f0, f1, f2, f3⟩ := piece_cells b6
    obtain ⟨d0, d1, d2, d3, g0, g1, g2, g3⟩ := piece_cells b10
    have hg1 := hfr.2.size
    clear hst hst' hf2
    have bx := block_set b10 0 (.int .i64 1)
    obtain ⟨x0, x1, x2, x3, y0, y1, y2, y3⟩ := piece_cells (w2 := w2.setCell ⟨w.heap.size + 1, 0, none⟩ (.int .i64 1)) bx
    have b6' := (Below.heap_setCell w2 ⟨w.heap.size + 1, 0, none⟩ (.int .i64 1) w.heap.size (by simp)).trans b6
    go_wp2_with fail
    exact bodyPost_ret (piece_res rfl rfl (set4 b6')) rfl ⟨⟨_, rfl, Hpv.out⟩, fr4 (hfr.setCell (p := ⟨w.heap.size + 1, 0, none⟩) (by simp) _) (Nat.le_refl _)⟩
end Go.Proofs.YtknbmnckegonlaaGreatDoor
