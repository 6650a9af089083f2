/- The contract on the reference's piece: symbols; and on all of it. -/
import Derived.Test.YtknbmnckegonlaaGreatDoorRefO
namespace Go.Proofs.YtknbmnckegonlaaGreatDoor
open Go.RowKit

theorem piece_symbol_val (lang : Int) (l : List UInt8) (K : Nat) (c : UInt8) (t : List UInt8) (hd : l.drop K = c :: t) (hsp : isSpace c = false) (hb : begins lang (l.drop K) = false) (hle : isLetter c = false) (hdi : isDigit c = false) (h34 : c.toNat ≠ 34) (h39 : c.toNat ≠ 39) :
    (symLen lang (l.drop K) = 0 → PieceVal lang l K (.agg #[.int .i64 6, .int .i64 (K : Int), .bool false, .int .i64 8])) ∧
    (symLen lang (l.drop K) ≠ 0 → PieceVal lang l K (.agg #[.int .i64 6, .int .i64 ((K + symLen lang (l.drop K) : Nat) : Int), .bool false, .int .i64 0])) := by
  have hpc : pieceOf lang (l.drop K) = symbolPiece lang (l.drop K) := by
    rw [hd] at hb ⊢; rw [pieceOf, if_neg (by rw [hsp]; decide), if_neg (by rw [hb]; decide), if_neg (by rw [hle]; decide), if_neg (by rw [hdi]; decide), if_neg h34, if_neg h39]
  unfold symbolPiece at hpc
  refine ⟨fun h => ?_, fun h => ?_⟩
  · rw [if_pos h] at hpc
    exact PieceVal.of hpc rfl (fun h => by cases h)
  · rw [if_neg h] at hpc
    exact PieceVal.of hpc rfl (fun _ => ⟨rfl, rfl, fun _ => rfl⟩)
theorem longF_le (l : List UInt8) (ws : List (List UInt8)) (h : ∀ x ∈ ws, x.length ≤ 3) (k : Nat) : longF l (ws.take k) ≤ 3 := by
  rcases maxFold_some (fun x => if x.isPrefixOf l = true then x.length else 0) (ws.take k) 0 with e | ⟨x, hx, e⟩
  · have : longF l (ws.take k) = 0 := e
    omega
  · have e' : longF l (ws.take k) = if x.isPrefixOf l = true then x.length else 0 := e
    have := h x (List.mem_of_mem_take hx)
    rw [e']; split <;> omega

set_option maxRecDepth 100000 in
set_option maxHeartbeats 4000000 in
/-- A symbol. -/
theorem piece_symbol (lang : Int) (hlang : lang = 0 ∨ lang = 1) (s : ByteArray) (l : List UInt8) (hs : s.data.toList = l) (K : Nat) (c : UInt8) (t : List UInt8) (hd : l.drop K = c :: t) (w : World) (hm : s.size ≤ 10000) (hsp : isSpace c = false)
    (hb : begins lang (l.drop K) = false) (hle : isLetter c = false) (hdi : isDigit c = false) (h34 : c.toNat ≠ 34) (h39 : c.toNat ≠ 39) : Calls Tryz.prog 43 #[.int .i64 lang, .string s, .int .i64 K] w fun e w' => (∃ v, e = .returned v ∧ PieceVal lang l K v) ∧ Fr w.heap.size w w' := by
  obtain ⟨hK, hc, ht⟩ := ba_at hs K hd
  have hrv : rComment lang l K = .tuple #[.int .i64 0, .bool false] := by unfold rComment; rw [if_neg (by rw [hb]; decide)]
  have Hco : Hid (∀ w, Calls Tryz.prog 69 #[.int .i64 lang, .string s, .int .i64 K] w fun e w' => e = .returned (.tuple #[.int .i64 0, .bool false]) ∧ w = w') := fun w => by have := rComment_any lang hlang s l hs K w hm (by omega); rw [hrv] at this; exact this
  have Hle : Hid (∀ w, Calls Tryz.prog 54 #[.int .u8 (s[K].toNat : Int)] w fun e w' => e = .returned (.bool false) ∧ w = w') := fun w => by have := rLetter_any s[K] w; rw [hc, hle] at this; rw [hc]; exact this
  have Hdi : Hid (∀ w, Calls Tryz.prog 70 #[.int .u8 (s[K].toNat : Int)] w fun e w' => e = .returned (.bool false) ∧ w = w') := fun w => by have := bIsDigit_any s[K] w; rw [hc, hdi] at this; rw [hc]; exact this
  have hb34 : ((s[K].toNat : Int) == 34) = false := by rw [hc]; simp; omega
  have hb39 : ((s[K].toNat : Int) == 39) = false := by rw [hc]; simp; omega
  have Hsy := Lib.hid (fun w => symbols_any lang hlang w)
  have hmem : ∀ x ∈ putAll (symsOf lang), 1 ≤ x.length ∧ x.length ≤ 3 := fun x hx => syms_len lang x (by have := (putAll_mem x (symsOf lang) []).1 hx; simpa using this)
  have hne : 0 < (putAll (symsOf lang)).length := by rcases hlang with rfl | rfl <;> decide +kernel
  have hlen : (putAll (symsOf lang)).length ≤ 1000 := by
    have := putAll_length (symsOf lang) (symsOf lang).length
    rw [List.take_length] at this
    have h2 : (symsOf lang).length ≤ 1000 := by rcases hlang with rfl | rfl <;> decide
    omega
  have hend : longF (l.drop K) (putAll (symsOf lang)) = symLen lang (l.drop K) := longF_syms lang _
  have Hval := Lib.hid (piece_symbol_val lang l K c t hd hsp hb hle hdi h34 h39)
  have Hhas := Lib.hid (fun (x : List UInt8) (w : World) (h1 : 1 ≤ x.length) (h3 : x.length ≤ 3) => has_any s l hs ⟨x.toArray⟩ x rfl K w (by omega) (by omega) (by rw [ba_size, ba_mk]; omega) (by rw [ba_size, ba_mk]; omega))
  obtain ⟨ss, hss⟩ : ∃ ss, putAll (symsOf lang) = ss := ⟨_, rfl⟩
  rw [hss] at hmem hne hlen hend Hsy
  have hll := fun k => longF_le (l.drop K) ss (fun x hx => (hmem x hx).2) k
  have Hmem := Lib.hid hmem; have Hend := Lib.hid hend; have Hll := Lib.hid hll
  have hf := Fr.self w
  clear hs hrv hd ht hb hle hc hdi h34 h39 hmem hend hll hss
  go_enter Tryz.func43, Tryz.ntmps43
  go_wp2_with (first | (go_at_call 69; refine (Hco.out _).mono ?_; rintro e w' ⟨rfl, rfl⟩) | (go_at_call 54; refine (Hle.out _).mono ?_; rintro e w' ⟨rfl, rfl⟩) | (go_at_call 70; refine (Hdi.out _).mono ?_; rintro e w' ⟨rfl, rfl⟩))
  refine (Hsy.out _).mono ?_
  rintro e w2 ⟨⟨v, rfl, hv⟩, hf2⟩
  obtain ⟨g, cap, rfl, hgl, hcap, hpos, hst⟩ : ∃ g cap, v = .slice (some ⟨g, 0, none⟩) ss.length cap ∧ g < w2.heap.size ∧ ss.length ≤ cap ∧ 0 < ss.length ∧ Strs w2 g ss := by
    rcases hv with ⟨-, h⟩ | h
    · rw [h] at hne; exact absurd hne (by decide)
    · exact h
  have hb2 := (hf2.2.block w.heap.size (by simp)).trans (heap_alloc_new w _)
  obtain ⟨c0, c1, c2, c3, f0, f1, f2, f3⟩ := piece_cells hb2
  have hfr : Fr w.heap.size w w2 := (hf.alloc _).trans hf2
  have Hst := Lib.hid hst; clear hst hv hf2
  go_wp2_with fail
  go_loop [13, 14] (fun e i => ∃ k : Nat, k ≤ ss.length ∧ i = .int .i64 k ∧ e = .int .i64 ((K + longF (l.drop K) (ss.take k) : Nat) : Int)) (fun _ i => ss.length - (intOf i).toNat)
  case atStart => exact ⟨0, by omega, rfl, rfl⟩
  case round =>
    obtain ⟨k, hk, rfl, rfl⟩ := hrel
    have hlk := Hll.out k
    by_cases hlt : k < ss.length
    · obtain ⟨x, hx⟩ : ∃ x, ss[k]? = some x := ⟨_, List.getElem?_eq_getElem hlt⟩
      have hcx := Hst.out k x hx
      obtain ⟨hx1, hx3⟩ := Hmem.out x (List.mem_of_getElem? hx)
      have hsn := longF_snoc (l.drop K) ss hx
      have Hha := Lib.hid (Hhas.out x w2 hx1 hx3)
      have hxs : (ByteArray.mk x.toArray).size = x.length := by rw [ba_size, ba_mk]
      have Hxs := Lib.hid hxs
      obtain ⟨A, hA⟩ : ∃ A, longF (l.drop K) (ss.take k) = A := ⟨_, rfl⟩
      rw [hA] at hsn hlk
      rw [hA]
      rcases hp : x.isPrefixOf (l.drop K) with _ | _
      · rw [hp] at Hha hsn
        simp only [Bool.false_eq_true, if_false, Nat.max_zero] at hsn
        have Hsn := Lib.hid hsn
        clear hx hsn hp hxs hA
        go_wp2_with (go_at_call 74; refine Hha.out.mono ?_; rintro e w' ⟨rfl, rfl⟩)
        go_round
        case rel => exact ⟨k + 1, by omega, by go_num, by rw [Hsn.out]; go_num⟩
        case measure => simp [intOf] <;> omega
      · rw [hp] at Hha hsn
        simp only [if_true] at hsn
        have Hsn := Lib.hid hsn
        clear hx hsn hp hA
        go_wp2_with (go_at_call 74; refine Hha.out.mono ?_; rintro e w' ⟨rfl, rfl⟩)
        go_round
        case rel => exact ⟨k + 1, by omega, by go_num, by rw [Hsn.out]; congr 1; omega⟩
        case measure => simp [intOf] <;> omega
    · have hke : ss.take k = ss := List.take_of_length_le (by omega)
      rw [hke, Hend.out]
      have hsl : symLen lang (l.drop K) ≤ 3 := by rw [← Hend.out, ← hke]; exact hlk
      have Hke := Lib.hid hke; clear hke
      by_cases h0 : symLen lang (l.drop K) = 0
      · have Hpv := Lib.hid (Hval.out.1 h0)
        rw [h0]
        clear hlk h0 hsl
        have hbe : ((K : Int) == (K : Int)) = true := by simp
        go_wp2_with (go_at_call 39; refine (count_any _ _).mono ?_; rintro e w' ⟨rfl, rfl⟩)
        exact bodyPost_ret (piece_res rfl rfl (set4 hb2)) rfl ⟨⟨_, rfl, Hpv.out⟩, fr4 hfr (Nat.le_refl _)⟩
      · have Hpv := Lib.hid (Hval.out.2 h0)
        obtain ⟨A, hA⟩ : ∃ A, symLen lang (l.drop K) = A := ⟨_, rfl⟩
        rw [hA] at hsl h0 Hpv ⊢
        have hbe : (((K + A : Nat) : Int) == (K : Int)) = false := by simp; omega
        clear hlk hA
        go_wp2_with (go_at_call 39; refine (count_any _ _).mono ?_; rintro e w' ⟨rfl, rfl⟩)
        exact bodyPost_ret (piece_res rfl rfl (set4 hb2)) rfl ⟨⟨_, rfl, Hpv.out⟩, fr4 hfr (Nat.le_refl _)⟩

/-- The reference's piece, where there is no blank. -/
theorem piece_any (lang : Int) (hlang : lang = 0 ∨ lang = 1) (s : ByteArray) (l : List UInt8) (hs : s.data.toList = l) (K : Nat) (c : UInt8) (t : List UInt8) (hd : l.drop K = c :: t) (w : World) (hm : s.size ≤ 10000) (hsp : isSpace c = false) :
    Calls Tryz.prog 43 #[.int .i64 lang, .string s, .int .i64 K] w fun e w' => (∃ v, e = .returned v ∧ PieceVal lang l K v) ∧ Fr w.heap.size w w' := by
  cases hb : begins lang (l.drop K) with
  | true => exact piece_comment lang hlang s l hs K c t hd w hm hsp hb
  | false =>
    cases hle : isLetter c with
    | true => exact piece_word lang hlang s l hs K c t hd w hm hsp hb hle
    | false =>
      cases hdi : isDigit c with
      | true => exact piece_number lang hlang s l hs K c t hd w hm hsp hb hle hdi
      | false =>
        by_cases h34 : c.toNat = 34
        · exact piece_quoted lang hlang s l hs K c t hd w hm hsp hb hle hdi h34
        · by_cases h39 : c.toNat = 39
          · exact piece_digits lang hlang s l hs K c t hd w hm hsp hb hle hdi h34 h39
          · exact piece_symbol lang hlang s l hs K c t hd w hm hsp hb hle hdi h34 h39
end Go.Proofs.YtknbmnckegonlaaGreatDoor
