/- Plain laws: tokens that fill a text leave no room for comments. No program is walked here. The contract on the reference's error of a token. -/
import Derived.Test.YtknbmnckegonlaaGreatDoorCover
import Derived.Test.YtknbmnckegonlaaGreatDoorPaint
import Derived.Test.YtknbmnckegonlaaGreatDoorCheckTok
import Derived.Test.YtknbmnckegonlaaGreatDoorLTok
namespace Go.Proofs.YtknbmnckegonlaaGreatDoor
open Go.RowKit

def sumLen (ps : List Pc) : Nat := (ps.map fun p => p.to - p.fr).sum
theorem chain_sum : ∀ (ps : List Pc) (a b : Nat), Chain a ps b → sumLen (ps.filter isTok) + sumLen (ps.filter isCom) ≤ b - a
  | [], a, b, h => by simp [sumLen]
  | p :: r, a, b, h => by
    have ih := chain_sum r p.to b h.2.2
    have hle := chain_le r p.to b h.2.2
    have h1 := h.1
    have h2 := h.2.1
    by_cases ht : isTok p = true
    · have hc : isCom p = false := by
        simp [isTok] at ht
        simp [isCom]; omega
      rw [List.filter_cons_of_pos ht, List.filter_cons_of_neg (by rw [hc]; decide)]
      simp only [sumLen, List.map_cons, List.sum_cons] at ih ⊢
      omega
    · rw [List.filter_cons_of_neg ht]
      by_cases hc : isCom p = true
      · rw [List.filter_cons_of_pos hc]
        simp only [sumLen, List.map_cons, List.sum_cons] at ih ⊢
        omega
      · rw [List.filter_cons_of_neg hc]; omega
theorem toks_sum {lang : Int} {l : List UInt8} : ((outToks lang l).map fun t => t.text.length).sum = sumLen ((outPcs lang l).filter isTok) := by
  unfold outToks sumLen
  rw [List.map_map]
  have : ∀ ps : List Pc, (∀ p ∈ ps, p.fr ≤ p.to ∧ p.to ≤ l.length) → (ps.map ((fun t => t.text.length) ∘ tokOf l)).sum = (ps.map fun p => p.to - p.fr).sum := by
    intro ps
    induction ps with
    | nil => intro _; rfl
    | cons p r ih =>
      intro h
      rw [List.map_cons, List.map_cons, List.sum_cons, List.sum_cons, ih (fun q hq => h q (by simp [hq]))]
      have := h p (by simp)
      congr 1
      simp [tokOf]; omega
  exact this _ (fun p hp => outPcs_in (List.mem_filter.1 hp).1)
/-- Tokens that fill a text are all of it. -/
theorem full_no_coms {lang : Int} {l : List UInt8} {ws : List Tok} (h : readsAs lang l ws = true) (hl : l.length ≤ (ws.map fun t => t.text.length).sum) : outComs lang l = [] := by
  obtain ⟨he, hm⟩ := of_decide_eq_true h
  have e1 : (outToks lang l).map (fun t => t.text.length) = ws.map (fun t => t.text.length) := by
    have := congrArg (List.map (fun x : Int × List UInt8 => x.2.length)) hm
    rw [List.map_map, List.map_map] at this
    exact this
  have e2 : sumLen ((outPcs lang l).filter isTok) = (ws.map fun t => t.text.length).sum := by rw [← toks_sum, e1]
  obtain ⟨-, hch⟩ := outPcs_chain he
  have h3 := chain_sum _ _ _ hch
  cases hc : outComs lang l with
  | nil => rfl
  | cons q r =>
    exfalso
    have hq : q ∈ outComs lang l := by rw [hc]; simp
    have hqm := chain_mem _ _ _ hch q (List.mem_filter.1 hq).1
    have : q.to - q.fr ≤ sumLen ((outPcs lang l).filter isCom) := by
      have : (outPcs lang l).filter isCom = q :: r := hc
      rw [this]; simp [sumLen]
    omega
theorem readsAs_one {lang : Int} {t : Tok} (h : readsAs lang t.text [t] = true) : outComs lang t.text = [] := full_no_coms h (by simp)
theorem readsAs_two {lang : Int} {a b : Tok} (h : readsAs lang (a.text ++ b.text) [a, b] = true) : outComs lang (a.text ++ b.text) = [] := full_no_coms h (by simp)
/-- The reference's test. -/
def refReads (lang : Int) (l : List UInt8) (ws : List Tok) : Bool := decide ((readErr lang l).2 = 0 ∧ outComs lang l = [] ∧ (outToks lang l).map kt = ws.map kt)
theorem refReads_eq {lang : Int} {l : List UInt8} {ws : List Tok} (hl : l.length ≤ (ws.map fun t => t.text.length).sum) : refReads lang l ws = readsAs lang l ws := by
  rw [Bool.eq_iff_iff]
  constructor
  · intro h
    obtain ⟨h1, -, h3⟩ := of_decide_eq_true h
    exact decide_eq_true ⟨h1, h3⟩
  · intro h
    obtain ⟨h1, h3⟩ := of_decide_eq_true h
    exact decide_eq_true ⟨h1, full_no_coms h hl, h3⟩
end Go.Proofs.YtknbmnckegonlaaGreatDoor
namespace Go.Proofs.YtknbmnckegonlaaGreatDoor
open Go.RowKit

theorem box_cells {w2 : World} {g : Nat} {a b c : Value} (h : w2.heap[g]? = some (.cells #[a, b, c] 43 (0, 0))) :
    w2.cell? ⟨g, 0, none⟩ = some a ∧ w2.cell? ⟨g, 1, none⟩ = some b ∧ w2.cell? ⟨g, 2, none⟩ = some c := by
  refine ⟨?_, ?_, ?_⟩ <;> rw [Lib.cell_of_heap h] <;> rfl
set_option maxRecDepth 100000 in
set_option maxHeartbeats 4000000 in
theorem tokenErr_any (lang : Int) (hlang : lang = 0 ∨ lang = 1) (t : Tok) (w : World) (hsz : t.text.length ≤ 9000) :
    Calls Tryz.prog 31 #[.int .i64 lang, .agg #[.int .i64 t.kind, .string ⟨t.text.toArray⟩, .int .i64 t.pos]] w fun e w' => e = .returned (.int .i64 (tokErr lang t)) ∧ Fr w.heap.size w w' := by
  have hf := Fr.self w
  obtain ⟨tk, tt, tp⟩ := t
  simp only at hsz ⊢
  by_cases hk : tk < 0 ∨ 7 ≤ tk
  · have hv : tokErr lang ⟨tk, tt, tp⟩ = 4 := by unfold tokErr; rw [if_neg (fun h => h hlang), if_pos hk]
    have hwd : decide ((0 : Int) ≤ tk ∧ tk ≤ 6) = false := by simp; omega
    have Hwi : Hid (∀ w, Calls Tryz.prog 17 #[.int .i64 tk, .int .i64 0, .int .i64 6] w fun e w' => e = .returned (.bool false) ∧ w = w') := fun w => by have := within_any tk 0 6 w; rw [hwd] at this; exact this
    have Hv := Lib.hid hv
    clear hv hwd hk
    go_enter Tryz.func31, Tryz.ntmps31
    go_wp2_with (go_at_call 17; refine (Hwi.out _).mono ?_; rintro e w' ⟨rfl, rfl⟩)
    go_ret
    exact ⟨by rw [Hv.out]; rfl, hf.alloc _⟩
  · have hwd : decide ((0 : Int) ≤ tk ∧ tk ≤ 6) = true := by simp; omega
    have Hwi : Hid (∀ w, Calls Tryz.prog 17 #[.int .i64 tk, .int .i64 0, .int .i64 6] w fun e w' => e = .returned (.bool true) ∧ w = w') := fun w => by have := within_any tk 0 6 w; rw [hwd] at this; exact this
    have hv : tokErr lang ⟨tk, tt, tp⟩ = if refReads lang tt [⟨tk, tt, tp⟩] = false then 8 else if tp < 0 ∨ 8000 < tp then 3 else 0 := by
      unfold tokErr; rw [if_neg (fun h => h hlang), if_neg hk, refReads_eq (by simp)]
    have Hre := Lib.hid (fun w => read_any lang ⟨tt.toArray⟩ tt rfl w (by rw [ba_size, ba_mk]; unfold maxLen; omega))
    have Hv := Lib.hid hv
    clear hv hwd hk
    go_enter Tryz.func31, Tryz.ntmps31
    go_wp2_with (go_at_call 17; refine (Hwi.out _).mono ?_; rintro e w' ⟨rfl, rfl⟩)
    refine (Hre.out _).mono ?_
    rintro e w3 ⟨r, vt, vc, rfl, hr, hx, hf3, hot, hoc⟩
    have hb3 := (hf3.2.block w.heap.size (by simp)).trans (heap_alloc_new w _)
    obtain ⟨b0, b1, b2⟩ := box_cells hb3
    have hf3' : Fr w.heap.size w w3 := (hf.alloc _).trans hf3
    have hrl := block_lt hx
    have hol := outToks_length lang tt
    obtain ⟨B, cb, e2, hB⟩ := tokRow_own hot rfl
    obtain ⟨C, cc, e3, hC⟩ := comRow_own hoc rfl
    subst e2; subst e3
    have x0 : w3.cell? ⟨r, 0, none⟩ = some (.slice B (outToks lang tt).length cb) := by rw [Lib.cell_of_heap hx]; rfl
    have x1 : w3.cell? ⟨r, 1, none⟩ = some (.slice C (outComs lang tt).length cc) := by rw [Lib.cell_of_heap hx]; rfl
    have x3 : w3.cell? ⟨r, 3, none⟩ = some (.int .i64 (readErr lang tt).2) := by rw [Lib.cell_of_heap hx]; rfl
    by_cases he : (readErr lang tt).2 = 0
    · have hbe : ((readErr lang tt).2 != 0) = false := by simp [he]
      cases hcl : outComs lang tt with
      | cons q rr =>
        have hv : tokErr lang ⟨tk, tt, tp⟩ = 8 := by
          rw [Hv.out, if_pos]
          exact decide_eq_false (fun h => by rw [hcl] at h; exact absurd h.2.1 (by simp))
        have hln : 0 < (outComs lang tt).length := by rw [hcl]; simp
        have Hv2 := Lib.hid hv
        have HB := Lib.hid hB; have HC := Lib.hid hC
        clear hv he hx hb3 hot hoc hB hC hcl
        go_wp2_with fail
        go_quiet (fail)
        go_wp2_with fail
        go_ret
        exact ⟨by rw [Hv2.out]; rfl, hf3'.drewN _⟩
      | nil =>
        have hv : tokErr lang ⟨tk, tt, tp⟩ = if sameToks (outToks lang tt) [⟨tk, tt, tp⟩] = false then 8 else if tp < 0 ∨ 8000 < tp then 3 else 0 := by
          rw [Hv.out]
          have e : refReads lang tt [⟨tk, tt, tp⟩] = sameToks (outToks lang tt) [⟨tk, tt, tp⟩] := by
            unfold refReads sameToks; rw [hcl, he, Bool.eq_iff_iff]; simp
          rw [e]
        have Hv2 := Lib.hid hv
        have hln : (outComs lang tt).length = 0 := by rw [hcl]; rfl
        rw [hln] at x1
        have hst : ∀ (W : World) (g : Nat), (∀ (j : Nat) (u : Value), (tokCells [⟨tk, tt, tp⟩])[j]? = some u → W.cell? ⟨g, j, none⟩ = some u) → g < W.heap.size → Fr w3.heap.size w3 W → Calls Tryz.prog 20 #[.slice B (outToks lang tt).length cb, .slice (some ⟨g, 0, none⟩) 1 1] W fun e w' => e = .returned (.bool (sameToks (outToks lang tt) [⟨tk, tt, tp⟩])) ∧ Fr W.heap.size W w' := by
          intro W g hc hg hW
          refine sameTokens_any (.slice B (outToks lang tt).length cb) (.slice (some ⟨g, 0, none⟩) 1 1) (outToks lang tt) [⟨tk, tt, tp⟩] W ?_ ?_ (by omega) (by simp)
          · refine ⟨B, cb, rfl, ?_⟩
            rcases hB with h | ⟨b, off, e, hb, hc⟩
            · exact .inl h
            · exact .inr ⟨b, off, e, by have := hW.2.size; omega, fun j u hu => (hW.cell (p := ⟨b, off + j, none⟩) hb).trans (hc j u hu)⟩
          · exact ⟨some ⟨g, 0, none⟩, 1, rfl, .inr ⟨g, 0, rfl, hg, fun j u hu => by rw [Nat.zero_add]; exact hc j u hu⟩⟩
        have hnews : ∀ (j : Nat) (u : Value), (tokCells [⟨tk, tt, tp⟩])[j]? = some u → (w3.alloc (Obj.cells #[.int .i64 tk, .string ⟨tt.toArray⟩, .int .i64 tp] 43)).drew.cell? ⟨w3.heap.size, j, none⟩ = some u := fun j u h => tokcells_new1 w3 ⟨tk, tt, tp⟩ j u h
        have hbl := block_lt hb3
        have hK : ∀ w4, Fr (w3.alloc (Obj.cells #[.int .i64 tk, .string ⟨tt.toArray⟩, .int .i64 tp] 43)).drew.heap.size (w3.alloc (Obj.cells #[.int .i64 tk, .string ⟨tt.toArray⟩, .int .i64 tp] 43)).drew w4 →
            w4.cell? ⟨r, 3, none⟩ = some (.int .i64 (readErr lang tt).2) ∧ w4.cell? ⟨r, 1, none⟩ = some (.slice C 0 cc) ∧ w4.cell? ⟨r, 0, none⟩ = some (.slice B (outToks lang tt).length cb) ∧
              w4.cell? ⟨w.heap.size, 0, none⟩ = some (.int .i64 tk) ∧ w4.cell? ⟨w.heap.size, 1, none⟩ = some (.string ⟨tt.toArray⟩) ∧ w4.cell? ⟨w.heap.size, 2, none⟩ = some (.int .i64 tp) := by
          intro w4 h
          have k : ∀ (p : Addr), p.block < w3.heap.size → w4.cell? p = w3.cell? p := fun p hp => (h.cell (p := p) (by simp; omega)).trans (World.cell?_alloc_lt w3 _ p hp)
          exact ⟨(k ⟨r, 3, none⟩ hrl).trans x3, (k ⟨r, 1, none⟩ hrl).trans x1, (k ⟨r, 0, none⟩ hrl).trans x0, (k ⟨w.heap.size, 0, none⟩ hbl).trans b0, (k ⟨w.heap.size, 1, none⟩ hbl).trans b1, (k ⟨w.heap.size, 2, none⟩ hbl).trans b2⟩
        have Hst := Lib.hid hst; have Hnews := Lib.hid hnews; have HK := Lib.hid hK
        clear hv he hx hot hoc hB hC hcl hst hnews hK hb3
        have n0 := World.new_ne w3 _ x0
        have n1 := World.new_ne w3 _ x1
        have n3 := World.new_ne w3 _ x3
        have m0 := World.new_ne w3 _ b0
        have m1 := World.new_ne w3 _ b1
        have m2 := World.new_ne w3 _ b2
        rcases hsb : sameToks (outToks lang tt) [⟨tk, tt, tp⟩] with _ | _
        · rw [hsb] at Hst Hv2
          clear hsb
          go_wp2_with fail
          go_region_held3 (fun w' => w'.cell? ⟨r, 3, none⟩ = some (.int .i64 (readErr lang tt).2) ∧ w'.cell? ⟨r, 1, none⟩ = some (.slice C 0 cc) ∧ w'.cell? ⟨r, 0, none⟩ = some (.slice B (outToks lang tt).length cb) ∧
              w'.cell? ⟨w.heap.size, 0, none⟩ = some (.int .i64 tk) ∧ w'.cell? ⟨w.heap.size, 1, none⟩ = some (.string ⟨tt.toArray⟩) ∧ w'.cell? ⟨w.heap.size, 2, none⟩ = some (.int .i64 tp))
            (first | (exact HK.out _ hf4) | go_keep)
            (first | (go_at_call 20; refine (Hst.out _ _ Hnews.out (by simp) (((Fr.self w3).alloc _).drew)).mono ?_; rintro e w4 ⟨rfl, hf4⟩))
          go_wp2_with fail
          go_ret
          exact ⟨by rw [Hv2.out]; rfl, ((hf3'.alloc _).drew).trans hf4⟩
        · rw [hsb] at Hst Hv2
          clear hsb
          have hwp : decide ((0 : Int) ≤ tp ∧ tp ≤ 8000) = !decide (tp < 0 ∨ 8000 < tp) := by
            rw [Bool.eq_iff_iff]; simp <;> omega
          have Hwp : Hid (∀ w, Calls Tryz.prog 17 #[.int .i64 tp, .int .i64 0, .int .i64 8000] w fun e w' => e = .returned (.bool (!decide (tp < 0 ∨ 8000 < tp))) ∧ w = w') := fun w => by have := within_any tp 0 8000 w; rw [hwp] at this; exact this
          clear hwp
          go_wp2_with fail
          go_region_held3 (fun w' => w'.cell? ⟨r, 3, none⟩ = some (.int .i64 (readErr lang tt).2) ∧ w'.cell? ⟨r, 1, none⟩ = some (.slice C 0 cc) ∧ w'.cell? ⟨r, 0, none⟩ = some (.slice B (outToks lang tt).length cb) ∧
              w'.cell? ⟨w.heap.size, 0, none⟩ = some (.int .i64 tk) ∧ w'.cell? ⟨w.heap.size, 1, none⟩ = some (.string ⟨tt.toArray⟩) ∧ w'.cell? ⟨w.heap.size, 2, none⟩ = some (.int .i64 tp))
            (first | (exact HK.out _ hf4) | go_keep)
            (first | (go_at_call 20; refine (Hst.out _ _ Hnews.out (by simp) (((Fr.self w3).alloc _).drew)).mono ?_; rintro e w4 ⟨rfl, hf4⟩))
          have d2 : w4.cell? ⟨w.heap.size, 2, none⟩ = some (.int .i64 tp) := (HK.out _ hf4).2.2.2.2.2
          have hr : Ending.returned (Value.int .i64 (tokErr lang ⟨tk, tt, tp⟩)) = .returned (.int .i64 (if decide (tp < 0 ∨ 8000 < tp) = true then 3 else 0)) := by
            rw [Hv2.out, if_neg (by decide)]; simp only [decide_eq_true_eq]
          have Hr := Lib.hid hr
          clear hr
          rcases hdp : decide (tp < 0 ∨ 8000 < tp) with _ | _
          · rw [hdp] at Hwp Hr
            clear hdp
            go_wp2_with (first | (go_at_call 17; refine (Hwp.out _).mono ?_; rintro e w' ⟨rfl, rfl⟩) | (go_at_call 39; refine (count_any _ _).mono ?_; rintro e w' ⟨rfl, rfl⟩))
            go_ret
            exact ⟨Hr.out.symm, ((hf3'.alloc _).drew).trans hf4⟩
          · rw [hdp] at Hwp Hr
            clear hdp
            go_wp2_with (first | (go_at_call 17; refine (Hwp.out _).mono ?_; rintro e w' ⟨rfl, rfl⟩) | (go_at_call 39; refine (count_any _ _).mono ?_; rintro e w' ⟨rfl, rfl⟩))
            go_ret
            exact ⟨Hr.out.symm, ((hf3'.alloc _).drew).trans hf4⟩
    · have hbe : ((readErr lang tt).2 != 0) = true := by simpa using he
      have hv : tokErr lang ⟨tk, tt, tp⟩ = 8 := by
        rw [Hv.out, if_pos]
        exact decide_eq_false (fun h => he h.1)
      have Hv2 := Lib.hid hv
      have HB := Lib.hid hB; have HC := Lib.hid hC
      clear hv he hx hb3 hot hoc hB hC
      go_wp2_with fail
      go_quiet (fail)
      go_wp2_with fail
      go_ret
      exact ⟨by rw [Hv2.out]; rfl, hf3'.drewN _⟩
end Go.Proofs.YtknbmnckegonlaaGreatDoor
