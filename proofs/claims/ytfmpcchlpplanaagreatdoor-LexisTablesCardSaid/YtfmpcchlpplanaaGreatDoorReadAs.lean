/- The contract on whether a text is read as just some tokens. -/
import Derived.Test.YtfmpcchlpplanaaGreatDoorToks
namespace Go.Proofs.YtfmpcchlpplanaaGreatDoor
open Go.RowKit

def kt (t : Tok) : Int × List UInt8 := (t.kind, t.text)
def readsAs (lang : Int) (l : List UInt8) (ws : List Tok) : Bool := decide ((readErr lang l).2 = 0 ∧ (outToks lang l).map kt = ws.map kt)
theorem tokCells_get : ∀ (ts : List Tok) (k : Nat) (t : Tok), ts[k]? = some t → (tokCells ts)[k * 3]? = some (.int .i64 t.kind) ∧ (tokCells ts)[k * 3 + 1]? = some (.string ⟨t.text.toArray⟩) ∧ (tokCells ts)[k * 3 + 2]? = some (.int .i64 t.pos)
  | [], k, p, h => by simp at h
  | q :: ps, 0, p, h => by simp at h; subst h; simp [tokCells]
  | q :: ps, k + 1, p, h => by
    have ih := tokCells_get ps k p (by simpa using h)
    have e : tokCells (q :: ps) = [Value.int .i64 q.kind, .string ⟨q.text.toArray⟩, .int .i64 q.pos] ++ tokCells ps := rfl
    have e0 : (k + 1) * 3 = 3 + k * 3 := by omega
    rw [e, e0]
    refine ⟨?_, ?_, ?_⟩
    · rw [List.getElem?_append_right (by simp), ← ih.1]; congr 1; simp
    · rw [List.getElem?_append_right (by simp; omega), ← ih.2.1]; congr 1; simp; omega
    · rw [List.getElem?_append_right (by simp; omega), ← ih.2.2]; congr 1; simp; omega
theorem map_take_step {ts ws : List Tok} {k : Nat} {t u : Tok} (h : (ts.take k).map kt = (ws.take k).map kt) (ht : ts[k]? = some t) (hu : ws[k]? = some u) (h1 : t.kind = u.kind) (h2 : t.text = u.text) : (ts.take (k + 1)).map kt = (ws.take (k + 1)).map kt := by
  rw [List.take_add_one, List.take_add_one, ht, hu, List.map_append, List.map_append, h]
  simp [kt, h1, h2]
theorem map_ne {ts ws : List Tok} {k : Nat} {t u : Tok} (ht : ts[k]? = some t) (hu : ws[k]? = some u) (h : ¬ (t.kind = u.kind ∧ t.text = u.text)) : ¬ ts.map kt = ws.map kt := by
  intro e
  have := congrArg (fun l => l[k]?) e
  simp [ht, hu, kt] at this
  exact h this
set_option maxRecDepth 100000 in
theorem isReadAs_any (lang : Int) (s : ByteArray) (l : List UInt8) (hs : s.data.toList = l) (gw m cap : Nat) (ws : List Tok) (hws : ws.length = m) (hm0 : 0 < m) (hm1 : m ≤ 1000) (w : World) (hsz : s.size ≤ maxLen) (hg : Hid (Glob w))
    (hwc : ∀ (j : Nat) (u : Value), (tokCells ws)[j]? = some u → w.cell? ⟨gw, j, none⟩ = some u) (hgw : gw < w.heap.size) :
    Calls Tryz.prog 49 #[.int .i64 lang, .string s, .slice (some ⟨gw, 0, none⟩) m cap] w fun e w' => e = .returned (.bool (readsAs lang l ws)) ∧ Fr w.heap.size w w' := by
  have hpo := tokensOf_any lang s l hs w hsz hg
  have Hpo := Lib.hid hpo; have Hws := Lib.hid hws; have Hwc := Lib.hid hwc; clear hs hpo hws hwc
  go_enter Tryz.func49, Tryz.ntmps49
  go_wp2_with fail
  refine Hpo.out.mono ?_
  rintro e w1 ⟨v, rfl, hf1, hown1⟩
  by_cases he : (readErr lang l).2 = 0
  · have hre := (readErr_ok he).2.2.2.2.2
    have Hre := Lib.hid hre; clear hre he
    rw [Hre.out]
    rcases own_cases hown1 with ⟨rfl, hn, -⟩ | ⟨g, gcap, rfl, hgb, hgl, hnc, hcells⟩
    · have hv : readsAs lang l ws = false := by
        unfold readsAs
        rw [List.eq_nil_of_length_eq_zero hn]
        refine decide_eq_false (fun h => ?_)
        have := congrArg List.length h.2
        rw [List.length_map, List.length_map, Hws.out] at this
        simp at this; omega
      have Hv := Lib.hid hv; clear hv hn hown1
      have hne : ((0 : Int) != (m : Int)) = true := by simp; omega
      go_wp2_with fail
      go_ret
      exact ⟨by rw [Hv.out]; rfl, hf1⟩
    · generalize hts : outToks lang l = ts at *
      have hval : readsAs lang l ws = decide (ts.map kt = ws.map kt) := by
        unfold readsAs; rw [hts, Hre.out]; simp
      by_cases hlen : ts.length = m
      · have hbl : ((ts.length : Int) != (m : Int)) = false := by simp [hlen]
        have Hval := Lib.hid hval; have Hlen := Lib.hid hlen; have Hcells := Lib.hid hcells
        clear hval hts hcells hown1 hnc hlen
        go_wp2_with fail
        go_loopw [30] (fun i wr => ∃ k : Nat, k ≤ ts.length ∧ i = .int .i64 k ∧ Fr w1.heap.size w1 wr ∧ Hid ((ts.take k).map kt = (ws.take k).map kt)) (fun i _ => ts.length - (intOf i).toNat)
        case atStart => exact ⟨0, by omega, rfl, Fr.self w1, rfl⟩
        case round =>
          obtain ⟨k, hk, rfl, hfr, HR⟩ := hrel
          have hgrow := hfr.le
          by_cases hkl : k < ts.length
          · have hkw : k < ws.length := by rw [Hws.out, ← Hlen.out]; exact hkl
            have hkm : (k : Int) < m := by rw [← Hlen.out]; omega
            obtain ⟨⟨tk, tt, tp⟩, ht⟩ : ∃ p, ts[k]? = some p := ⟨_, List.getElem?_eq_getElem hkl⟩
            obtain ⟨⟨uk, ut, up⟩, hu⟩ : ∃ p, ws[k]? = some p := ⟨_, List.getElem?_eq_getElem hkw⟩
            have htc := tokCells_get ts k _ ht
            have huc := tokCells_get ws k _ hu
            have g0 : wr.cell? ⟨g, k * 3, none⟩ = some (.int .i64 tk) := (hfr.cell (p := ⟨g, _, none⟩) hgl).trans (Hcells.out _ _ htc.1)
            have g1 : wr.cell? ⟨g, k * 3 + 1, none⟩ = some (.string ⟨tt.toArray⟩) := (hfr.cell (p := ⟨g, _, none⟩) hgl).trans (Hcells.out _ _ htc.2.1)
            have g2 : wr.cell? ⟨g, k * 3 + 2, none⟩ = some (.int .i64 tp) := (hfr.cell (p := ⟨g, _, none⟩) hgl).trans (Hcells.out _ _ htc.2.2)
            have hf2 : Fr w.heap.size w wr := hf1.trans hfr
            have gw1 : gw < wr.heap.size := by have := hf2.le; omega
            have e0 : wr.cell? ⟨gw, k * 3, none⟩ = some (.int .i64 uk) := (hf2.cell (p := ⟨gw, _, none⟩) hgw).trans (Hwc.out _ _ huc.1)
            have e1 : wr.cell? ⟨gw, k * 3 + 1, none⟩ = some (.string ⟨ut.toArray⟩) := (hf2.cell (p := ⟨gw, _, none⟩) hgw).trans (Hwc.out _ _ huc.2.1)
            have hkn : (0 : Int) ≤ k := by omega
            have Ht := Lib.hid ht; have Hu := Lib.hid hu
            clear ht hu htc huc
            by_cases hkk : tk = uk
            · have hb : (tk != uk) = false := by simp [hkk]
              have Hkk := Lib.hid hkk; clear hkk
              by_cases htt : tt = ut
              · have hb2 : (tt == ut) = true := by simp [htt]
                have Htt := Lib.hid htt; clear htt
                go_wp2_with fail
                go_quiet (fail)
                go_wp2_with fail
                go_roundw
                case rel => exact ⟨k + 1, by omega, by go_num, (hfr.alloc _).drewN _, map_take_step HR.out Ht.out Hu.out Hkk.out Htt.out⟩
                case measure => simp [intOf] <;> omega
              · have hb2 : (tt == ut) = false := by simp [htt]
                have hv : readsAs lang l ws = false := by
                  rw [Hval.out]; exact decide_eq_false (map_ne Ht.out Hu.out (fun h => htt h.2))
                have Hv := Lib.hid hv; clear hv htt
                go_wp2_with fail
                go_quiet (fail)
                go_wp2_with fail
                go_ret
                exact ⟨by rw [Hv.out]; rfl, (hf2.alloc _).drewN _⟩
            · have hb : (tk != uk) = true := by simp [hkk]
              have hv : readsAs lang l ws = false := by
                rw [Hval.out]; exact decide_eq_false (map_ne Ht.out Hu.out (fun h => hkk h.1))
              have Hv := Lib.hid hv; clear hv hkk
              go_wp2_with fail
              go_quiet (fail)
              go_wp2_with fail
              go_ret
              exact ⟨by rw [Hv.out]; rfl, (hf2.alloc _).drewN _⟩
          · have hv : readsAs lang l ws = true := by
              rw [Hval.out]
              have h := HR.out
              rw [List.take_of_length_le (by omega), List.take_of_length_le (by rw [Hws.out, ← Hlen.out]; omega)] at h
              exact decide_eq_true h
            have Hv := Lib.hid hv; clear hv
            go_wp2_with fail
            go_ret
            exact ⟨by rw [Hv.out]; rfl, hf1.trans hfr⟩
      · have hbl : ((ts.length : Int) != (m : Int)) = true := by simp; omega
        have hv : readsAs lang l ws = false := by
          rw [hval]
          refine decide_eq_false (fun h => hlen ?_)
          have := congrArg List.length h
          rw [List.length_map, List.length_map, Hws.out] at this
          exact this
        have Hv := Lib.hid hv; clear hv hval hts hcells hown1 hlen
        go_wp2_with fail
        go_ret
        exact ⟨by rw [Hv.out]; rfl, hf1⟩
  · have hb : ((readErr lang l).2 != 0) = true := by simp [he]
    have hv : readsAs lang l ws = false := by unfold readsAs; exact decide_eq_false (fun h => he h.1)
    have Hv := Lib.hid hv; clear hv he
    go_wp2_with fail
    go_ret
    exact ⟨by rw [Hv.out]; rfl, hf1⟩
end Go.Proofs.YtfmpcchlpplanaaGreatDoor
