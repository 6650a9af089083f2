/- The law of bare texts, walked: a row of bytes that a loop writes into. -/
import Derived.Test.YtknbmnckegonlaaGreatDoorBareB
import Derived.Test.YtknbmnckegonlaaGreatDoorLTok
import Derived.Test.YtknbmnckegonlaaGreatDoorPlace
import Derived.Laws.IdiomStrings
namespace Go.Proofs.YtknbmnckegonlaaGreatDoor
open Go.RowKit

/-- A block that holds the bytes of a text, none of them frozen. -/
structure Row8 (b : Nat) (bs : List UInt8) (w : World) : Prop where
  lt : b < w.heap.size
  cell : ∀ i c, bs[i]? = some c → w.cell? ⟨b, i, none⟩ = some (.int .u8 (c.toNat : Int))
  free : ∀ i, i < bs.length → w.frozen? ⟨b, i, none⟩ = false
theorem add0 (b j : Nat) : (⟨b, 0, none⟩ : Addr).add j = ⟨b, j, none⟩ := by
  unfold Addr.add
  by_cases h0 : j = 0 <;> simp [h0]
theorem within_yes (n a b : Int) (h : a ≤ n ∧ n ≤ b) (w : World) :
    Calls Tryz.prog 17 #[.int .i64 n, .int .i64 a, .int .i64 b] w fun e w' => e = .returned (.bool true) ∧ w = w' := by
  have := within_any n a b w
  rw [decide_eq_true h] at this
  exact this
theorem Row8.set {b : Nat} {bs : List UInt8} {w : World} (h : Row8 b bs w) {i : Nat} (hi : i < bs.length) : Row8 b (bs.set i 32) (w.setCell ⟨b, i, none⟩ (.int .u8 32)) := by
  refine ⟨by rw [show (w.setCell ⟨b, i, none⟩ (.int .u8 32)).heap.size = w.heap.size by simp [World.setCell]]; exact h.lt, fun j c hj => ?_, fun j hj => ?_⟩
  · rw [List.getElem?_set] at hj
    by_cases hij : i = j
    · subst hij
      rw [if_pos rfl, if_pos hi] at hj
      injection hj with hj
      subst hj
      exact World.cell?_setCell_same _ _ _ (h.cell i _ (List.getElem?_eq_getElem hi))
    · rw [if_neg hij] at hj
      exact (World.cell?_setCell_other _ _ _ _ (by intro e; injection e with _ e _; exact hij e)).trans (h.cell j c hj)
  · rw [World.frozen?_setCell]
    exact h.free j (by simpa using hj)
theorem Row8.fr {b N : Nat} {bs : List UInt8} {w w' : World} (h : Row8 b bs w) (hf : Fr N w w') (hb : b < N) : Row8 b bs w' :=
  ⟨Nat.lt_of_lt_of_le h.lt hf.2.size, fun i c hi => (hf.cell (p := ⟨b, i, none⟩) hb).trans (h.cell i c hi), fun i hi => (hf.frozen (p := ⟨b, i, none⟩) hb).trans (h.free i hi)⟩
theorem Row8.new (w : World) (s : ByteArray) (l : List UInt8) (hs : s.data.toList = l) (cap : Nat) (e : TypeId) :
    Row8 w.heap.size l (w.drew.alloc (.cells (bytesRow s cap) e ((bytesRow s cap).size, (bytesRow s cap).size + 1))) := by
  have hsz : w.drew.heap.size = w.heap.size := rfl
  have hle : l.length ≤ (bytesRow s cap).size := by
    subst hs
    unfold bytesRow
    rw [Array.size_append, Array.size_map, Array.length_toList]; omega
  refine ⟨by simp [hsz], fun i c hi => ?_, fun i hi => ?_⟩
  · have hil : i < l.length := (List.getElem?_eq_some_iff.1 hi).1
    subst hs
    have hid : i < s.data.size := by simpa using hil
    rw [← hsz, World.cell?_alloc_mark, bytesRow_at s _ i hid]
    have : s.data[i] = c := by
      have := (List.getElem?_eq_some_iff.1 hi).2
      simpa using this
    rw [this]
  · rw [← hsz, World.frozen?_alloc_mark]
    have : decide ((bytesRow s cap).size ≤ i) = false := decide_eq_false (by omega)
    rw [this, Bool.false_and]
/-- The text with blanks in the place of some pieces, line feeds staying; and of a part of one more. -/
def bared (l : List UInt8) (ps : List Pc) (a m : Nat) : List UInt8 := paint (fun j => (cov ps j || decide (a ≤ j ∧ j < m)) && decide (l[j]? ≠ some 10)) l
theorem bared_len (l : List UInt8) (ps : List Pc) (a m : Nat) : (bared l ps a m).length = l.length := paint_len _ _
theorem bared_get (l : List UInt8) (ps : List Pc) (a m i : Nat) (c : UInt8) (h : l[i]? = some c) : ∃ c', (bared l ps a m)[i]? = some c' ∧ (c' = 10 ↔ c = 10) := by
  unfold bared
  rw [paint_get, h, Option.map_some]
  refine ⟨_, rfl, ?_⟩
  by_cases hc : c = 10
  · subst hc; simp
  · split
    · simp [hc]
    · exact Iff.rfl
theorem bared_skip (l : List UInt8) (ps : List Pc) (a m : Nat) (h : l[m]? = some 10) : bared l ps a (m + 1) = bared l ps a m := by
  unfold bared
  congr 1
  funext j
  by_cases hj : j = m
  · subst hj; simp [h]
  · have : decide (a ≤ j ∧ j < m + 1) = decide (a ≤ j ∧ j < m) := by rw [decide_eq_decide]; omega
    rw [this]
theorem bared_set (l : List UInt8) (ps : List Pc) (a m : Nat) (c : UInt8) (ha : a ≤ m) (h : l[m]? = some c) (hc : c ≠ 10) : (bared l ps a m).set m 32 = bared l ps a (m + 1) := by
  unfold bared
  rw [paint_set]
  congr 1
  funext j
  by_cases hj : j = m
  · subst hj; simp [h, hc, ha]
  · have h1 : decide (a ≤ j ∧ j < m + 1) = decide (a ≤ j ∧ j < m) := by rw [decide_eq_decide]; omega
    have h2 : decide (j = m) = false := decide_eq_false hj
    rw [h1, h2, Bool.or_false]
theorem bared_none (l : List UInt8) (ps : List Pc) (a m : Nat) (h : m ≤ a) : bared l ps a m = bared l ps 0 0 := by
  unfold bared
  congr 1
  funext j
  have h1 : decide (a ≤ j ∧ j < m) = false := decide_eq_false (by omega)
  have h2 : decide (0 ≤ j ∧ j < 0) = false := decide_eq_false (by omega)
  rw [h1, h2]
theorem bared_more (l : List UInt8) (ps : List Pc) (k : Nat) (p : Pc) (h : ps[k]? = some p) : bared l (ps.take k) p.fr p.to = bared l (ps.take (k + 1)) 0 0 := by
  unfold bared
  congr 1
  funext j
  have h1 : cov (ps.take (k + 1)) j = (cov (ps.take k) j || decide (p.fr ≤ j ∧ j < p.to)) := by
    rw [List.take_add_one, h]
    unfold cov
    rw [List.any_append]; simp
  have h2 : decide (0 ≤ j ∧ j < 0) = false := decide_eq_false (by omega)
  rw [h1, h2, Bool.or_false]
theorem bared_nil (l : List UInt8) : bared l [] 0 0 = l := by
  unfold bared
  rw [show (fun j => (cov [] j || decide (0 ≤ j ∧ j < 0)) && decide (l[j]? ≠ some 10)) = fun _ => false from funext fun j => by simp [cov], paint_none]
theorem bared_all (lang : Int) (l : List UInt8) : bared l (outComs lang l) 0 0 = paint (barePlace lang l) l := by
  unfold bared
  congr 1
  funext j
  unfold barePlace
  have h2 : decide (0 ≤ j ∧ j < 0) = false := decide_eq_false (by omega)
  rw [h2, Bool.or_false]

set_option maxRecDepth 100000 in
set_option maxHeartbeats 400000 in
theorem lexisBare_any (lang : Int) (s : ByteArray) (w : World) (hm : s.size ≤ maxLen) (hg : Hid (Glob w)) :
    Calls Tryz.prog 10 #[.int .i64 lang, .string s] w fun e w' => e = .returned (.bool true) ∧ Fr w.heap.size w w' := by
  obtain ⟨l, hs⟩ : ∃ l, s.data.toList = l := ⟨_, rfl⟩
  have hlen := ba_len hs
  have Haw := Lib.hid (awake_any w hg)
  have Hsh := Lib.hid (fun w => short_any s w hm)
  have Hto := Lib.hid (fun w hg => tokensOf_any lang s l hs w hm hg)
  have Hco := Lib.hid (fun w hg => commentsOf_any lang s l hs w hm hg)
  have hol := outComs_length lang l
  have hul := outToks_length lang l
  cases hsh : isShort s.size with
  | false =>
    have Hb := Lib.hid hsh
    clear hs hlen hm hsh
    go_enter Tryz.func10, Tryz.ntmps10
    go_wp2_with (first
      | (go_at_call 12; refine (Haw.out).mono ?_; rintro e w' ⟨rfl, hf⟩)
      | (go_at_call 13; refine (Hsh.out _).mono ?_; rintro e w'' ⟨rfl, rfl⟩; rw [Hb.out]))
    go_ret
    exact ⟨rfl, hf⟩
  | true =>
    have h9 : l.length ≤ 9000 := by
      have := of_decide_eq_true hsh
      omega
    have Hb := Lib.hid hsh
    by_cases hE : (readErr lang l).2 = 0
    · have H0 := Lib.hid hE
      have Hin := Lib.hid (fun p hp => coms_in hE p hp)
      have Hnx := Lib.hid (fun k p q hp hq => coms_next hE k p q hp hq)
      have Hall := Lib.hid (bare_all hE)
      rw [← bared_all] at Hall
      have Hs := Lib.hid hs
      have hsl : s.size = l.length := hlen
      have Hcv := Lib.hid (fun w => run_bytes_of_string (P := Tryz.prog) w 9 67 5 s Tryz.underlying9 Tryz.underlying67 Tryz.underlying5)
      generalize hts : outComs lang l = ts at *
      generalize hus : outToks lang l = us at *
      have Hts := Lib.hid hts; have Hus := Lib.hid hus
      clear hs hlen hm hsh hts hus hE
      go_enter Tryz.func10, Tryz.ntmps10
      go_wp2_with (first
        | (go_at_call 12; refine (Haw.out).mono ?_; rintro e w1 ⟨rfl, hf⟩)
        | (go_at_call 13; refine (Hsh.out _).mono ?_; rintro e w'' ⟨rfl, rfl⟩; rw [Hb.out]))
      refine (Hto.out _ (Glob.fr hg hf)).mono ?_
      rintro e w2 ⟨v, rfl, hf2, hown⟩
      rw [Hus.out] at hown
      rw [H0.out]
      go_wp2_with fail
      refine (Hco.out _ (Glob.fr hg (hf.trans hf2))).mono ?_
      rintro e w3 ⟨v2, rfl, hf3, howc⟩
      rw [Hts.out] at howc
      rw [H0.out]
      obtain ⟨A, ca, e1, hA⟩ := tokRow_own (own_below hown hf3.2) rfl
      obtain ⟨B, cb, e2, hB⟩ := comRow_own howc rfl
      subst e1; subst e2
      have hfa : Fr w.heap.size w w3 := (hf.trans hf2).trans hf3
      have HA := Lib.hid hA; have HB := Lib.hid hB
      clear hown howc hA hB hf3 hf2
      have hcv := Hcv.out w3
      have hrow0 := Row8.new w3 s l Hs.out (grownCap w3 s.size 0 5) 5
      have hf40 : Fr w3.heap.size w3 (w3.drew.alloc (.cells (bytesRow s (grownCap w3 s.size 0 5)) 5 ((bytesRow s (grownCap w3 s.size 0 5)).size, (bytesRow s (grownCap w3 s.size 0 5)).size + 1))) := (Fr.self w3).drew.alloc _
      generalize (w3.drew.alloc (.cells (bytesRow s (grownCap w3 s.size 0 5)) 5 ((bytesRow s (grownCap w3 s.size 0 5)).size, (bytesRow s (grownCap w3 s.size 0 5)).size + 1))) = w4 at hcv hrow0 hf40
      generalize grownCap w3 s.size 0 5 = cap at hcv
      rw [← bared_nil l] at hrow0
      have hsi : (s.size : Int) ≤ 9000 := by omega
      go_wp2_with fail
      go_loopw [12, 13] (fun last i wr => ∃ k n : Nat, k ≤ ts.length ∧ i = .int .i64 k ∧ last = .int .i64 n ∧ Hid (∀ p, ts[k]? = some p → n ≤ p.fr) ∧ Row8 w3.heap.size (bared l (ts.take k) 0 0) wr ∧ Fr w3.heap.size w3 wr) (fun _ i _ => ts.length - (intOf i).toNat)
      case atStart => exact ⟨0, 0, by omega, rfl, rfl, Lib.hid (fun p _ => Nat.zero_le _), by rw [List.take_zero]; exact hrow0, hf40⟩
      case round =>
        obtain ⟨k, n, hk, rfl, rfl, hn, hrow, hfr⟩ := hrel
        by_cases hlt : k < ts.length
        · have hne : ts ≠ [] := by intro h; rw [h] at hlt; exact absurd hlt (Nat.not_lt_zero _)
          obtain ⟨gb, rfl, hgb, hcb⟩ := HB.out.resolve_left hne
          obtain ⟨p, ht⟩ : ∃ p, ts[k]? = some p := ⟨_, List.getElem?_eq_getElem hlt⟩
          obtain ⟨hc0, hc1⟩ := comCells_get ts k _ ht
          have hpn := hn.out p ht
          obtain ⟨hp2, hpl⟩ := Hin.out p (List.mem_of_getElem? ht)
          have a0 : wr.cell? ⟨gb, k * 2, none⟩ = some (.int .i64 (p.fr : Int)) := (hfr.cell (p := ⟨gb, _, none⟩) hgb).trans (hcb _ _ hc0)
          have a1 : wr.cell? ⟨gb, k * 2 + 1, none⟩ = some (.int .i64 (p.to : Int)) := (hfr.cell (p := ⟨gb, _, none⟩) hgb).trans (hcb _ _ hc1)
          have hkn : (0 : Int) ≤ k := by omega
          have hkm : (k : Int) < ts.length := by omega
          have hfrI : (0 : Int) ≤ p.fr := by omega
          have hfrJ : (p.fr : Int) ≤ 9000 := by omega
          have Ht := Lib.hid ht
          have hb1 := hcb _ _ hc1
          clear hne hn hcb hc0 hc1 ht
          obtain ⟨pk, pf, pt⟩ := p
          simp only at *
          go_wp2_with fail
          go_quiet (first | (go_at_call 17; refine quiet_left (within_yes _ _ _ ?_ _); omega))
          go_wp2_with fail
          go_loopw [14] (fun m wi => ∃ m' : Nat, pf ≤ m' ∧ m' ≤ pt ∧ m = .int .i64 m' ∧ Row8 w3.heap.size (bared l (ts.take k) pf m') wi ∧ Fr w3.heap.size w3 wi) (fun m _ => pt - (intOf m).toNat)
          case atStart => exact ⟨pf, Nat.le_refl _, by omega, rfl, by rw [bared_none l _ pf pf (Nat.le_refl _)]; exact hrow.fr ((Fr.self wr).drewN _) hrow.lt, hfr.drewN _⟩
          case round =>
            obtain ⟨m, hm1, hm2, rfl, hrowi, hfri⟩ := hrel
            have a1 : wr.cell? ⟨gb, k * 2 + 1, none⟩ = some (.int .i64 (pt : Int)) := (hfri.cell (p := ⟨gb, _, none⟩) hgb).trans hb1
            by_cases hlm : m < pt
            · obtain ⟨c, hc⟩ : ∃ c, l[m]? = some c := ⟨_, List.getElem?_eq_getElem (by omega)⟩
              obtain ⟨c', hc', hcc⟩ := bared_get l (ts.take k) pf m m c hc
              have hcell := hrowi.cell m c' hc'
              have hfz := hrowi.free m (by rw [bared_len]; omega)
              have hmI : (0 : Int) ≤ m := by omega
              have hmJ : (m : Int) < l.length := by omega
              have hmK : (m : Int) < pt := by omega
              have Hc := Lib.hid hc
              clear hc hc'
              by_cases h10 : c = 10
              · have h10' : c' = 10 := hcc.2 h10
                subst h10'
                have hcell' : wr.cell? ⟨w3.heap.size, m, none⟩ = some (.int .u8 10) := hcell
                clear hcell hcc
                go_wp2_with fail
                go_roundw
                case rel => exact ⟨m + 1, by omega, by omega, by go_num, by rw [bared_skip _ _ _ _ (by rw [Hc.out, h10])]; exact hrowi, hfri⟩
                case measure => simp [intOf] <;> omega
              · have hcn : ¬ ((c'.toNat : Int) = 10) := by
                  intro h
                  exact h10 (hcc.1 (UInt8.toNat_inj.1 (by rw [show (10 : UInt8).toNat = 10 from rfl]; omega)))
                clear hcc
                go_wp2_with fail
                go_roundw
                case rel => exact ⟨m + 1, by omega, by omega, by go_num, by rw [← bared_set l _ pf m c hm1 Hc.out h10]; exact hrowi.set (by rw [bared_len]; omega), hfri.setCell (Nat.le_refl _) _⟩
                case measure => simp [intOf] <;> omega
            · have hmm : m = pt := by omega
              go_wp2_with fail
              go_roundw
              case rel => exact ⟨k + 1, pt, by omega, by go_num, rfl, Lib.hid (fun q hq => Hnx.out k _ q Ht.out hq), by rw [← bared_more l ts k _ Ht.out]; subst hmm; exact hrowi, hfri⟩
              case measure => simp [intOf] <;> omega
        · have hrow' : Row8 w3.heap.size (bared l ts 0 0) wr := by
            have := hrow
            rw [List.take_of_length_le (by omega)] at this
            exact this
          obtain ⟨hall0, hallc, hallt⟩ := Hall.out
          have hl'len := bared_len l ts 0 0
          generalize bared l ts 0 0 = l' at hrow' hall0 hallc hallt hl'len
          have hcvb : ∀ w', Row8 w3.heap.size l' w' → (convert 67 9 (.slice (some ⟨w3.heap.size, 0, none⟩) l.length cap)).run Tryz.prog w' = .ok (.string ⟨l'.toArray⟩) w' := fun w' hr => by
            have := run_convert_bytes_back (P := Tryz.prog) w' 67 9 5 ⟨w3.heap.size, 0, none⟩ cap l' Tryz.underlying67 Tryz.underlying5 Tryz.underlying9 (fun j hj => (congrArg w'.cell? (add0 _ j)).trans (hr.cell j _ (List.getElem?_eq_getElem hj)))
            rw [hl'len] at this; exact this
          have hcv1 := hcvb wr hrow'
          have Hcvb := Lib.hid hcvb
          have Ht2 := Lib.hid (fun w hg => tokensOf_any lang ⟨l'.toArray⟩ l' (ba_mk l') w (by rw [ba_size, ba_mk, hl'len]; unfold maxLen; omega) hg)
          have Hc2 := Lib.hid (fun w hg => commentsOf_any lang ⟨l'.toArray⟩ l' (ba_mk l') w (by rw [ba_size, ba_mk, hl'len]; unfold maxLen; omega) hg)
          have Ha0 := Lib.hid hall0; have Hac := Lib.hid hallc; have Hat := Lib.hid hallt
          clear hcvb hall0 hallc hallt hrow
          go_wp2_with fail
          refine (Ht2.out _ (Glob.fr hg (hfa.trans hfr))).mono ?_
          rintro e w5 ⟨v5, rfl, hf5, hown5⟩
          rw [Hat.out] at hown5
          rw [Ha0.out]
          obtain ⟨A5, c5, e5, hA5⟩ := tokRow_own hown5 rfl
          subst e5
          have HA5 := Lib.hid hA5
          have hcv2 := Hcvb.out w5 (hrow'.fr hf5 hrow'.lt)
          clear hown5 hA5 hcv1
          go_wp2_with fail
          refine (Hc2.out _ (Glob.fr hg ((hfa.trans hfr).trans hf5))).mono ?_
          rintro e w6 ⟨v6, rfl, hf6, hown6⟩
          rw [Hac.out] at hown6
          rw [Ha0.out]
          obtain ⟨A6, c6, e6, -⟩ := comRow_own hown6 rfl
          subst e6
          clear hown6 hcv2
          have hF3 : Fr w3.heap.size w3 w6 := (hfr.trans hf5).trans hf6
          have hF5 : Fr w5.heap.size w5 w6 := hf6
          go_wp2_with fail
          go_loopw [21] (fun i wr => ∃ k : Nat, k ≤ us.length ∧ i = .int .i64 k ∧ Fr w6.heap.size w6 wr) (fun i _ => us.length - (intOf i).toNat)
          case atStart => exact ⟨0, by omega, rfl, Fr.self w6⟩
          case round =>
            obtain ⟨q, hq, rfl, hfq⟩ := hrel
            by_cases hlq : q < us.length
            · have hne : us ≠ [] := by intro h; rw [h] at hlq; exact absurd hlq (Nat.not_lt_zero _)
              obtain ⟨ga, oa, rfl, hga, hca⟩ := HA.out.resolve_left hne
              obtain ⟨gc, oc, rfl, hgc, hcc⟩ := HA5.out.resolve_left hne
              obtain ⟨⟨tk, tt, tp⟩, ht⟩ : ∃ p, us[q]? = some p := ⟨_, List.getElem?_eq_getElem hlq⟩
              obtain ⟨t0, t1, t2⟩ := tokCells_get us q _ ht
              have hG3 := hF3.trans hfq
              have hG5 := hF5.trans hfq
              have x0 : wr.cell? ⟨ga, oa + q * 3, none⟩ = some (.int .i64 tk) := (hG3.cell (p := ⟨ga, _, none⟩) hga).trans (hca _ _ t0)
              have x1 : wr.cell? ⟨ga, oa + q * 3 + 1, none⟩ = some (.string ⟨tt.toArray⟩) := (hG3.cell (p := ⟨ga, _, none⟩) hga).trans (hca _ _ t1)
              have x2 : wr.cell? ⟨ga, oa + q * 3 + 2, none⟩ = some (.int .i64 tp) := (hG3.cell (p := ⟨ga, _, none⟩) hga).trans (hca _ _ t2)
              have y0 : wr.cell? ⟨gc, oc + q * 3, none⟩ = some (.int .i64 tk) := (hG5.cell (p := ⟨gc, _, none⟩) hgc).trans (hcc _ _ t0)
              have y1 : wr.cell? ⟨gc, oc + q * 3 + 1, none⟩ = some (.string ⟨tt.toArray⟩) := (hG5.cell (p := ⟨gc, _, none⟩) hgc).trans (hcc _ _ t1)
              have y2 : wr.cell? ⟨gc, oc + q * 3 + 2, none⟩ = some (.int .i64 tp) := (hG5.cell (p := ⟨gc, _, none⟩) hgc).trans (hcc _ _ t2)
              have hqn : (0 : Int) ≤ q := by omega
              have hqm : (q : Int) < us.length := by omega
              clear ht t0 t1 t2 hca hcc hne
              go_wp2_with fail
              go_quiet (fail)
              go_wp2_with fail
              go_roundw
              case rel => exact ⟨q + 1, by omega, by go_num, hfq.drewN _⟩
              case measure => simp [intOf] <;> omega
            · go_wp2_with fail
              go_ret
              exact ⟨rfl, hfa.trans (hF3.trans hfq)⟩
    · have hts : outComs lang l = [] := by unfold outComs outPcs; rw [if_neg hE]; rfl
      have hus : outToks lang l = [] := by unfold outToks outPcs; rw [if_neg hE]; rfl
      have Hts := Lib.hid hts; have Hus := Lib.hid hus
      obtain ⟨E, hEe⟩ : ∃ E, (readErr lang l).2 = E := ⟨_, rfl⟩
      rw [hEe] at hE
      have HE := Lib.hid hEe
      have hE2 : (E == 0) = false := by simpa using hE
      clear hs hlen hm hsh hts hus hEe hol hul
      go_enter Tryz.func10, Tryz.ntmps10
      go_wp2_with (first
        | (go_at_call 12; refine (Haw.out).mono ?_; rintro e w1 ⟨rfl, hf⟩)
        | (go_at_call 13; refine (Hsh.out _).mono ?_; rintro e w'' ⟨rfl, rfl⟩; rw [Hb.out]))
      refine (Hto.out _ (Glob.fr hg hf)).mono ?_
      rintro e w2 ⟨v, rfl, hf2, hown⟩
      rw [Hus.out] at hown
      rw [HE.out]
      go_wp2_with fail
      refine (Hco.out _ (Glob.fr hg (hf.trans hf2))).mono ?_
      rintro e w3 ⟨v2, rfl, hf3, howc⟩
      rw [Hts.out] at howc
      rw [HE.out]
      obtain ⟨A, ca, e1, -⟩ := tokRow_own hown rfl
      obtain ⟨B, cb, e2, -⟩ := comRow_own howc rfl
      subst e1; subst e2
      clear hown howc
      go_wp2_with fail
      go_ret
      exact ⟨rfl, (hf.trans hf2).trans hf3⟩
end Go.Proofs.YtknbmnckegonlaaGreatDoor
