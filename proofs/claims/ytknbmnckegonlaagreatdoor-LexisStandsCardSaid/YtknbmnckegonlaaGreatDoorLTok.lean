/- The law of the tokens of a text, walked. The law of the comments of a text, walked. -/
import Derived.Test.YtknbmnckegonlaaGreatDoorRefQ
import Derived.Test.YtknbmnckegonlaaGreatDoorFrame
namespace Go.Proofs.YtknbmnckegonlaaGreatDoor
open Go.RowKit

theorem tokRow_own {w : World} {base n : Nat} {v : Value} {ts : List Tok} (h : w.ownsRow base 43 3 v n (tokCells ts)) (hn : n = ts.length) : TokRow w w.heap.size v ts := by
  subst hn
  rcases own_cases h with ⟨rfl, h0, -⟩ | ⟨g, cap, rfl, -, hlt, -, hc⟩
  · exact ⟨none, 0, by rw [h0], .inl (List.eq_nil_of_length_eq_zero h0)⟩
  · exact ⟨some ⟨g, 0, none⟩, cap, rfl, .inr ⟨g, 0, rfl, hlt, fun j u hu => by rw [Nat.zero_add]; exact hc j u hu⟩⟩
theorem sameToks_self (a : List Tok) : sameToks a a = true := decide_eq_true rfl
theorem outToks_length (lang : Int) (l : List UInt8) : (outToks lang l).length ≤ l.length := by
  unfold outToks
  rw [List.length_map]
  exact Nat.le_trans (List.length_filter_le _ _) (outPcs_length lang l)
theorem outComs_length (lang : Int) (l : List UInt8) : (outComs lang l).length ≤ l.length :=
  Nat.le_trans (List.length_filter_le _ _) (outPcs_length lang l)

set_option maxRecDepth 100000 in
set_option maxHeartbeats 4000000 in
theorem lexisTokens_any (lang : Int) (s : ByteArray) (w : World) (hm : s.size ≤ maxLen) (hg : Hid (Glob w)) :
    Calls Tryz.prog 4 #[.int .i64 lang, .string s] w fun e w' => e = .returned (.bool true) ∧ Fr w.heap.size w w' := by
  obtain ⟨l, hs⟩ : ∃ l, s.data.toList = l := ⟨_, rfl⟩
  have hlen := ba_len hs
  have Haw := Lib.hid (awake_any w hg)
  have Hsh := Lib.hid (fun w => short_any s w hm)
  have Hto := Lib.hid (fun w hg => tokensOf_any lang s l hs w hm hg)
  have Hre := Lib.hid (fun w => read_any lang s l hs w hm)
  have hol := outToks_length lang l
  cases hsh : isShort s.size with
  | false =>
    have Hb := Lib.hid hsh
    clear hs hlen hm hsh
    go_enter Tryz.func4, Tryz.ntmps4
    go_wp2_with (first
      | (go_at_call 12; refine (Haw.out).mono ?_; rintro e w' ⟨rfl, hf⟩)
      | (go_at_call 13; refine (Hsh.out _).mono ?_; rintro e w'' ⟨rfl, rfl⟩; rw [Hb.out]))
    go_ret
    exact ⟨rfl, hf⟩
  | true =>
    have h9 : l.length ≤ 9000 := by
      have := of_decide_eq_true hsh
      omega
    have Hb := Lib.hid hsh
    generalize hts : outToks lang l = ts at *
    have Hts := Lib.hid hts
    clear hs hlen hm hsh hts
    go_enter Tryz.func4, Tryz.ntmps4
    go_wp2_with (first
      | (go_at_call 12; refine (Haw.out).mono ?_; rintro e w1 ⟨rfl, hf⟩)
      | (go_at_call 13; refine (Hsh.out _).mono ?_; rintro e w'' ⟨rfl, rfl⟩; rw [Hb.out]))
    refine (Hto.out _ (Glob.fr hg hf)).mono ?_
    rintro e w2 ⟨v, rfl, hf2, hown⟩
    rw [Hts.out] at hown
    go_wp2_with fail
    refine (Hre.out _).mono ?_
    rintro e w3 ⟨r, vt, vc, rfl, hr, hx, hf3, hot, hoc⟩
    rw [Hts.out] at hot
    have hown3 := own_below hown hf3.2
    have hst := sameTokens_any v vt ts ts w3 (tokRow_own hown3 rfl) (tokRow_own hot rfl) (by omega) (by omega)
    rw [sameToks_self] at hst
    obtain ⟨A, ca, e1, hA⟩ := tokRow_own hown3 rfl
    obtain ⟨B, cb, e2, hB⟩ := tokRow_own hot rfl
    subst e1; subst e2
    have x0 : w3.cell? ⟨r, 0, none⟩ = some (.slice B ts.length cb) := by rw [Lib.cell_of_heap hx]; rfl
    have x2 : w3.cell? ⟨r, 2, none⟩ = some (.int .i64 ((readErr lang l).1 : Int)) := by rw [Lib.cell_of_heap hx]; rfl
    have x3 : w3.cell? ⟨r, 3, none⟩ = some (.int .i64 (readErr lang l).2) := by rw [Lib.cell_of_heap hx]; rfl
    have hrl := block_lt hx
    have hfa : Fr w.heap.size w w3 := (hf.trans hf2).trans hf3
    have Hst := Lib.hid hst; have HA := Lib.hid hA; have HB := Lib.hid hB
    clear hx hown hot hoc hown3 hst hA hB hf3 hf2
    go_wp2_with (go_at_call 20; refine (Hst.out).mono ?_; rintro e w4 ⟨rfl, hf4⟩)
    go_loopw [9] (fun i wr => ∃ k : Nat, k ≤ ts.length ∧ i = .int .i64 k ∧ Fr w3.heap.size w3 wr) (fun i _ => ts.length - (intOf i).toNat)
    case atStart => exact ⟨0, by omega, rfl, hf4⟩
    case round =>
      obtain ⟨k, hk, rfl, hfr⟩ := hrel
      by_cases hlt : k < ts.length
      · have hne : ts ≠ [] := by intro h; rw [h] at hlt; exact absurd hlt (Nat.not_lt_zero _)
        obtain ⟨ga, oa, rfl, hga, hca⟩ := HA.out.resolve_left hne
        obtain ⟨gb, ob, rfl, hgb, hcb⟩ := HB.out.resolve_left hne
        obtain ⟨⟨tk, tt, tp⟩, ht⟩ : ∃ p, ts[k]? = some p := ⟨_, List.getElem?_eq_getElem hlt⟩
        have htc := (tokCells_get ts k _ ht).2.2
        have y0 : wr.cell? ⟨r, 0, none⟩ = _ := (hfr.cell (p := ⟨r, 0, none⟩) hrl).trans x0
        have g2 : wr.cell? ⟨ga, oa + k * 3 + 2, none⟩ = some (.int .i64 tp) := (hfr.cell (p := ⟨ga, _, none⟩) hga).trans (hca _ _ htc)
        have e2 : wr.cell? ⟨gb, ob + k * 3 + 2, none⟩ = some (.int .i64 tp) := (hfr.cell (p := ⟨gb, _, none⟩) hgb).trans (hcb _ _ htc)
        have hkn : (0 : Int) ≤ k := by omega
        have hkm : (k : Int) < ts.length := by omega
        clear ht htc hca hcb hne
        go_wp2_with fail
        go_quiet (fail)
        go_wp2_with fail
        go_roundw
        case rel => exact ⟨k + 1, by omega, by go_num, hfr.drewN _⟩
        case measure => simp [intOf] <;> omega
      · go_wp2_with fail
        go_ret
        exact ⟨rfl, hfa.trans hfr⟩
end Go.Proofs.YtknbmnckegonlaaGreatDoor
namespace Go.Proofs.YtknbmnckegonlaaGreatDoor
open Go.RowKit

theorem comCells_get : ∀ (ps : List Pc) (k : Nat) (p : Pc), ps[k]? = some p → (comCells ps)[k * 2]? = some (.int .i64 (p.fr : Int)) ∧ (comCells ps)[k * 2 + 1]? = some (.int .i64 (p.to : Int))
  | [], k, p, h => by simp at h
  | q :: ps, 0, p, h => by simp at h; subst h; simp [comCells]
  | q :: ps, k + 1, p, h => by
    have ih := comCells_get ps k p (by simpa using h)
    have e : comCells (q :: ps) = [Value.int .i64 (q.fr : Int), .int .i64 (q.to : Int)] ++ comCells ps := rfl
    have e0 : (k + 1) * 2 = 2 + k * 2 := by omega
    rw [e, e0]
    refine ⟨?_, ?_⟩
    · rw [List.getElem?_append_right (by simp), ← ih.1]; congr 1; simp
    · rw [List.getElem?_append_right (by simp; omega), ← ih.2]; congr 1; simp; omega
/-- A row of comments. -/
def ComRow (w : World) (v : Value) (ps : List Pc) : Prop :=
  ∃ A cap, v = .slice A ps.length cap ∧ (ps = [] ∨ ∃ b, A = some ⟨b, 0, none⟩ ∧ b < w.heap.size ∧ ∀ (j : Nat) (u : Value), (comCells ps)[j]? = some u → w.cell? ⟨b, j, none⟩ = some u)
theorem comRow_own {w : World} {base n : Nat} {v : Value} {ps : List Pc} (h : w.ownsRow base 48 2 v n (comCells ps)) (hn : n = ps.length) : ComRow w v ps := by
  subst hn
  rcases own_cases h with ⟨rfl, h0, -⟩ | ⟨g, cap, rfl, -, hlt, -, hc⟩
  · exact ⟨none, 0, by rw [h0], .inl (List.eq_nil_of_length_eq_zero h0)⟩
  · exact ⟨some ⟨g, 0, none⟩, cap, rfl, .inr ⟨g, rfl, hlt, hc⟩⟩

set_option maxRecDepth 100000 in
set_option maxHeartbeats 4000000 in
theorem lexisComments_any (lang : Int) (s : ByteArray) (w : World) (hm : s.size ≤ maxLen) (hg : Hid (Glob w)) :
    Calls Tryz.prog 5 #[.int .i64 lang, .string s] w fun e w' => e = .returned (.bool true) ∧ Fr w.heap.size w w' := by
  obtain ⟨l, hs⟩ : ∃ l, s.data.toList = l := ⟨_, rfl⟩
  have hlen := ba_len hs
  have Haw := Lib.hid (awake_any w hg)
  have Hsh := Lib.hid (fun w => short_any s w hm)
  have Hto := Lib.hid (fun w hg => commentsOf_any lang s l hs w hm hg)
  have Hre := Lib.hid (fun w => read_any lang s l hs w hm)
  have hol := outComs_length lang l
  cases hsh : isShort s.size with
  | false =>
    have Hb := Lib.hid hsh
    clear hs hlen hm hsh
    go_enter Tryz.func5, Tryz.ntmps5
    go_wp2_with (first
      | (go_at_call 12; refine (Haw.out).mono ?_; rintro e w' ⟨rfl, hf⟩)
      | (go_at_call 13; refine (Hsh.out _).mono ?_; rintro e w'' ⟨rfl, rfl⟩; rw [Hb.out]))
    go_ret
    exact ⟨rfl, hf⟩
  | true =>
    have h9 : l.length ≤ 9000 := by
      have := of_decide_eq_true hsh
      omega
    have Hb := Lib.hid hsh
    generalize hts : outComs lang l = ts at *
    have Hts := Lib.hid hts
    clear hs hlen hm hsh hts
    go_enter Tryz.func5, Tryz.ntmps5
    go_wp2_with (first
      | (go_at_call 12; refine (Haw.out).mono ?_; rintro e w1 ⟨rfl, hf⟩)
      | (go_at_call 13; refine (Hsh.out _).mono ?_; rintro e w'' ⟨rfl, rfl⟩; rw [Hb.out]))
    refine (Hto.out _ (Glob.fr hg hf)).mono ?_
    rintro e w2 ⟨v, rfl, hf2, hown⟩
    rw [Hts.out] at hown
    go_wp2_with fail
    refine (Hre.out _).mono ?_
    rintro e w3 ⟨r, vt, vc, rfl, hr, hx, hf3, hot, hoc⟩
    rw [Hts.out] at hoc
    have hown3 := own_below hown hf3.2
    obtain ⟨A, ca, e1, hA⟩ := comRow_own hown3 rfl
    obtain ⟨B, cb, e2, hB⟩ := comRow_own hoc rfl
    subst e1; subst e2
    have x1 : w3.cell? ⟨r, 1, none⟩ = some (.slice B ts.length cb) := by rw [Lib.cell_of_heap hx]; rfl
    have x2 : w3.cell? ⟨r, 2, none⟩ = some (.int .i64 ((readErr lang l).1 : Int)) := by rw [Lib.cell_of_heap hx]; rfl
    have x3 : w3.cell? ⟨r, 3, none⟩ = some (.int .i64 (readErr lang l).2) := by rw [Lib.cell_of_heap hx]; rfl
    have hrl := block_lt hx
    have hfa : Fr w.heap.size w w3 := (hf.trans hf2).trans hf3
    have HA := Lib.hid hA; have HB := Lib.hid hB
    clear hx hown hot hoc hown3 hA hB hf3 hf2
    go_wp2_with fail
    go_loopw [9] (fun i wr => ∃ k : Nat, k ≤ ts.length ∧ i = .int .i64 k ∧ Fr w3.heap.size w3 wr) (fun i _ => ts.length - (intOf i).toNat)
    case atStart => exact ⟨0, by omega, rfl, Fr.self w3⟩
    case round =>
      obtain ⟨k, hk, rfl, hfr⟩ := hrel
      by_cases hlt : k < ts.length
      · have hne : ts ≠ [] := by intro h; rw [h] at hlt; exact absurd hlt (Nat.not_lt_zero _)
        obtain ⟨ga, rfl, hga, hca⟩ := HA.out.resolve_left hne
        obtain ⟨gb, rfl, hgb, hcb⟩ := HB.out.resolve_left hne
        obtain ⟨p, ht⟩ : ∃ p, ts[k]? = some p := ⟨_, List.getElem?_eq_getElem hlt⟩
        obtain ⟨hc0, hc1⟩ := comCells_get ts k _ ht
        have y0 : wr.cell? ⟨r, 1, none⟩ = _ := (hfr.cell (p := ⟨r, 1, none⟩) hrl).trans x1
        have a0 : wr.cell? ⟨ga, k * 2, none⟩ = some (.int .i64 (p.fr : Int)) := (hfr.cell (p := ⟨ga, _, none⟩) hga).trans (hca _ _ hc0)
        have a1 : wr.cell? ⟨ga, k * 2 + 1, none⟩ = some (.int .i64 (p.to : Int)) := (hfr.cell (p := ⟨ga, _, none⟩) hga).trans (hca _ _ hc1)
        have e0 : wr.cell? ⟨gb, k * 2, none⟩ = some (.int .i64 (p.fr : Int)) := (hfr.cell (p := ⟨gb, _, none⟩) hgb).trans (hcb _ _ hc0)
        have e1 : wr.cell? ⟨gb, k * 2 + 1, none⟩ = some (.int .i64 (p.to : Int)) := (hfr.cell (p := ⟨gb, _, none⟩) hgb).trans (hcb _ _ hc1)
        have hkn : (0 : Int) ≤ k := by omega
        have hkm : (k : Int) < ts.length := by omega
        clear ht hc0 hc1 hca hcb hne
        go_wp2_with fail
        go_quiet (fail)
        go_wp2_with fail
        go_roundw
        case rel => exact ⟨k + 1, by omega, by go_num, hfr.drewN _⟩
        case measure => simp [intOf] <;> omega
      · go_wp2_with fail
        go_ret
        exact ⟨rfl, hfa.trans hfr⟩
end Go.Proofs.YtknbmnckegonlaaGreatDoor
