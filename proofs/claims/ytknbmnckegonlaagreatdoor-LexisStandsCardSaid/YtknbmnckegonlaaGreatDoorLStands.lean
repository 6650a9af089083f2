/- The law that every character of a text is something, walked. -/
import Derived.Test.YtknbmnckegonlaaGreatDoorLBare
namespace Go.Proofs.YtknbmnckegonlaaGreatDoor
open Go.RowKit

theorem whited_at {l : List UInt8} {S : Nat → Bool} {a m : Nat} {c : UInt8} (hS : S m = false) (h : l[m]? = some c) : (paint (fun j => S j || decide (a ≤ j ∧ j < m)) l)[m]? = some c := by
  rw [paint_get, h, Option.map_some, hS]
  have : decide (a ≤ m ∧ m < m) = false := decide_eq_false (by omega)
  rw [this]; rfl
/-- The text with blanks at some places, and in a part of one piece more. -/
def whited (l : List UInt8) (S : Nat → Bool) (a m : Nat) : List UInt8 := paint (fun j => S j || decide (a ≤ j ∧ j < m)) l
theorem whited_len (l : List UInt8) (S : Nat → Bool) (a m : Nat) : (whited l S a m).length = l.length := paint_len _ _
theorem whited_set (l : List UInt8) (S : Nat → Bool) (a m : Nat) (h : a ≤ m) : (whited l S a m).set m 32 = whited l S a (m + 1) := by
  unfold whited
  rw [paint_set]
  congr 1
  funext j
  by_cases hj : j = m
  · subst hj; simp [h]
  · have h1 : decide (a ≤ j ∧ j < m + 1) = decide (a ≤ j ∧ j < m) := by rw [decide_eq_decide]; omega
    have h2 : decide (j = m) = false := decide_eq_false hj
    rw [h1, h2, Bool.or_false]
theorem whited_none (l : List UInt8) (S : Nat → Bool) (a m : Nat) (h : m ≤ a) : whited l S a m = paint S l := by
  unfold whited
  congr 1
  funext j
  have h1 : decide (a ≤ j ∧ j < m) = false := decide_eq_false (by omega)
  rw [h1, Bool.or_false]
theorem wrap_small (n : Int) (h0 : 0 ≤ n) (h1 : n ≤ 9000) : IntKind.i64.wrap n = n := by
  have e1 : n % (2 ^ IntKind.i64.bits : Int) = n := by
    show n % 18446744073709551616 = n
    omega
  unfold IntKind.wrap
  simp only [e1]
  rw [if_neg]
  rw [Bool.and_eq_true]
  rintro ⟨-, h⟩
  have h2 : (9223372036854775808 : Int) ≤ n := of_decide_eq_true h
  omega
theorem cov_more (ps : List Pc) (k : Nat) (p : Pc) (h : ps[k]? = some p) (j : Nat) : cov (ps.take (k + 1)) j = (cov (ps.take k) j || decide (p.fr ≤ j ∧ j < p.to)) := by
  rw [List.take_add_one, h]
  unfold cov
  rw [List.any_append]; simp
theorem whited_toks (l : List UInt8) (ps : List Pc) (k : Nat) (p : Pc) (h : ps[k]? = some p) : whited l (cov (ps.take k)) p.fr p.to = paint (cov (ps.take (k + 1))) l := by
  unfold whited
  congr 1
  funext j
  rw [cov_more ps k p h]
theorem whited_coms (l : List UInt8) (S : Nat → Bool) (ps : List Pc) (k : Nat) (p : Pc) (h : ps[k]? = some p) : whited l (fun j => S j || cov (ps.take k) j) p.fr p.to = paint (fun j => S j || cov (ps.take (k + 1)) j) l := by
  unfold whited
  congr 1
  funext j
  rw [cov_more ps k p h, Bool.or_assoc]
theorem toks_next {lang : Int} {l : List UInt8} (h : (readErr lang l).2 = 0) (k : Nat) (p q : Pc) (hp : ((outPcs lang l).filter isTok)[k]? = some p) (hq : ((outPcs lang l).filter isTok)[k + 1]? = some q) : p.to ≤ q.fr :=
  chain_filter _ _ _ isTok (outPcs_chain h).2 k p q hp hq
theorem whites {lang : Int} {l : List UInt8} (h : (readErr lang l).2 = 0) (i : Nat) (c : UInt8) (hc : (paint (fun j => cov ((outPcs lang l).filter isTok) j || cov (outComs lang l) j) l)[i]? = some c) : c = 32 ∨ c = 10 ∨ c = 9 := by
  rw [paint_get] at hc
  cases hx : l[i]? with
  | none => rw [hx] at hc; cases hc
  | some x =>
    rw [hx, Option.map_some, Option.some.injEq] at hc
    split at hc
    · exact .inl hc.symm
    · rename_i hn
      rw [Bool.not_eq_true, Bool.or_eq_false_iff] at hn
      have := white_rest h i x hx hn.1 hn.2
      subst hc
      have hw : x.toNat = 32 ∨ x.toNat = 9 ∨ x.toNat = 10 := of_decide_eq_true this
      rcases hw with h | h | h
      · exact .inl (UInt8.toNat_inj.1 h)
      · exact .inr (.inr (UInt8.toNat_inj.1 h))
      · exact .inr (.inl (UInt8.toNat_inj.1 h))

set_option maxRecDepth 100000 in
set_option maxHeartbeats 1000000 in
theorem lexisStands_any (lang : Int) (s : ByteArray) (w : World) (hm : s.size ≤ maxLen) (hg : Hid (Glob w)) :
    Calls Tryz.prog 11 #[.int .i64 lang, .string s] w fun e w' => e = .returned (.bool true) ∧ Fr w.heap.size w w' := by
  obtain ⟨l, hs⟩ : ∃ l, s.data.toList = l := ⟨_, rfl⟩
  have hlen := ba_len hs
  have Haw := Lib.hid (awake_any w hg)
  have Hsh := Lib.hid (fun w => short_any s w hm)
  have Hto := Lib.hid (fun w hg => tokensOf_any lang s l hs w hm hg)
  have Hco := Lib.hid (fun w hg => commentsOf_any lang s l hs w hm hg)
  have hol := outComs_length lang l
  have hul := outToks_length lang l
  cases hsh : isShort s.size with
  | false =>
    have Hb := Lib.hid hsh
    clear hs hlen hm hsh
    go_enter Tryz.func11, Tryz.ntmps11
    go_wp2_with (first
      | (go_at_call 12; refine (Haw.out).mono ?_; rintro e w' ⟨rfl, hf⟩)
      | (go_at_call 13; refine (Hsh.out _).mono ?_; rintro e w'' ⟨rfl, rfl⟩; rw [Hb.out]))
    go_ret
    exact ⟨rfl, hf⟩
  | true =>
    have h9 : l.length ≤ 9000 := by
      have := of_decide_eq_true hsh
      omega
    have Hb := Lib.hid hsh
    by_cases hE : (readErr lang l).2 = 0
    · have H0 := Lib.hid hE
      have Hin := Lib.hid (fun p hp => coms_in hE p hp)
      have Hnx := Lib.hid (fun k p q hp hq => coms_next hE k p q hp hq)
      have Htn := Lib.hid (fun k p q hp hq => toks_next hE k p q hp hq)
      have Htm : Hid (∀ p ∈ (outPcs lang l).filter isTok, p.fr < p.to ∧ p.to ≤ l.length) := fun p hp => (chain_mem _ _ _ (outPcs_chain hE).2 p (List.mem_filter.1 hp).1).2
      have Hrt := Lib.hid (fun t ht => token_right lang l t ht)
      have Hap := Lib.hid (fun i h1 h2 => tok_com_apart hE i h1 h2)
      have Hwh := Lib.hid (fun i c hc => whites hE i c hc)
      have Hs := Lib.hid hs
      have hsl : s.size = l.length := hlen
      have Hcv := Lib.hid (fun w => run_bytes_of_string (P := Tryz.prog) w 9 67 5 s Tryz.underlying9 Tryz.underlying67 Tryz.underlying5)
      have husd : outToks lang l = ((outPcs lang l).filter isTok).map (tokOf l) := rfl
      generalize hps : (outPcs lang l).filter isTok = ps at *
      generalize hts : outComs lang l = ts at *
      generalize hus : outToks lang l = us at *
      have hpl : ps.length = us.length := by rw [husd, List.length_map]
      have Hud := Lib.hid husd
      have Hts := Lib.hid hts; have Hus := Lib.hid hus
      clear hs hlen hm hsh hts hus hE hps husd
      go_enter Tryz.func11, Tryz.ntmps11
      go_wp2_with (first
        | (go_at_call 12; refine (Haw.out).mono ?_; rintro e w1 ⟨rfl, hf⟩)
        | (go_at_call 13; refine (Hsh.out _).mono ?_; rintro e w'' ⟨rfl, rfl⟩; rw [Hb.out]))
      refine (Hto.out _ (Glob.fr hg hf)).mono ?_
      rintro e w2 ⟨v, rfl, hf2, hown⟩
      rw [Hus.out] at hown
      rw [H0.out]
      go_wp2_with fail
      refine (Hco.out _ (Glob.fr hg (hf.trans hf2))).mono ?_
      rintro e w3 ⟨v2, rfl, hf3, howc⟩
      rw [Hts.out] at howc
      rw [H0.out]
      obtain ⟨A, ca, e1, hA⟩ := tokRow_own (own_below hown hf3.2) rfl
      obtain ⟨B, cb, e2, hB⟩ := comRow_own howc rfl
      subst e1; subst e2
      have hfa : Fr w.heap.size w w3 := (hf.trans hf2).trans hf3
      have HA := Lib.hid hA; have HB := Lib.hid hB
      clear hown howc hA hB hf3 hf2
      have hcv := Hcv.out w3
      have hrow0 := Row8.new w3 s l Hs.out (grownCap w3 s.size 0 5) 5
      have hf40 : Fr w3.heap.size w3 (w3.drew.alloc (.cells (bytesRow s (grownCap w3 s.size 0 5)) 5 ((bytesRow s (grownCap w3 s.size 0 5)).size, (bytesRow s (grownCap w3 s.size 0 5)).size + 1))) := (Fr.self w3).drew.alloc _
      generalize (w3.drew.alloc (.cells (bytesRow s (grownCap w3 s.size 0 5)) 5 ((bytesRow s (grownCap w3 s.size 0 5)).size, (bytesRow s (grownCap w3 s.size 0 5)).size + 1))) = w4 at hcv hrow0 hf40
      generalize grownCap w3 s.size 0 5 = cap at hcv
      have hsi : (s.size : Int) ≤ 9000 := by omega
      have hc0 : ∀ i : Nat, cov (ps.take 0) i = false := fun i => by simp [cov]
      have hrow1 : Row8 w3.heap.size (paint (cov (ps.take 0)) l) w4 := by rw [show cov (ps.take 0) = fun _ => false from funext hc0, paint_none]; exact hrow0
      clear hrow0 hc0
      go_wp2_with fail
      go_loopw [12, 13] (fun last i wr => ∃ k n : Nat, k ≤ us.length ∧ i = .int .i64 k ∧ last = .int .i64 n ∧ Hid (∀ p, ps[k]? = some p → n ≤ p.fr) ∧ Row8 w3.heap.size (paint (cov (ps.take k)) l) wr ∧ Fr w3.heap.size w3 wr) (fun _ i _ => us.length - (intOf i).toNat)
      case atStart => exact ⟨0, 0, by omega, rfl, rfl, Lib.hid (fun p _ => Nat.zero_le _), hrow1, hf40⟩
      case round =>
        obtain ⟨k, n, hk, rfl, rfl, hn, hrow, hfr⟩ := hrel
        by_cases hlt : k < us.length
        · have hne : us ≠ [] := by intro h; rw [h] at hlt; exact absurd hlt (Nat.not_lt_zero _)
          obtain ⟨ga, oa, rfl, hga, hca⟩ := HA.out.resolve_left hne
          obtain ⟨⟨pk, pf, pt⟩, ht⟩ : ∃ p, ps[k]? = some p := ⟨_, List.getElem?_eq_getElem (by omega)⟩
          have htu : us[k]? = some (tokOf l ⟨pk, pf, pt⟩) := by rw [Hud.out, List.getElem?_map, ht]; rfl
          obtain ⟨hte, htl, kk, hkk, hkl, hkt⟩ := Hrt.out _ (List.mem_of_getElem? htu)
          obtain ⟨t0, t1, t2⟩ := tokCells_get us k _ htu
          have hpn : n ≤ pf := hn.out _ ht
          have hpf : (tokOf l ⟨pk, pf, pt⟩).pos = (pf : Int) := rfl
          have hpk : (tokOf l ⟨pk, pf, pt⟩).kind = pk := rfl
          obtain rfl : kk = pf := by rw [hpf] at hkk; omega
          have hple : pt ≤ l.length ∧ kk + (tokOf l ⟨pk, kk, pt⟩).text.length = pt := by
            have h1 : (tokOf l ⟨pk, kk, pt⟩).text.length = min (pt - kk) (l.length - kk) := by simp [tokOf]
            have h2 : kk < pt ∧ pt ≤ l.length := Htm.out _ (List.mem_of_getElem? ht)
            omega
          generalize htt : (tokOf l ⟨pk, kk, pt⟩).text = tt at *
          rw [hpf] at t2
          rw [hpk] at t0
          have hct : Hid (∀ w, Hid (Glob w) → Calls Tryz.prog 30 #[.int .i64 lang, .agg #[.int .i64 pk, .string ⟨tt.toArray⟩, .int .i64 (kk : Int)]] w fun e w' => e = .returned (.int .i64 0) ∧ Fr w.heap.size w w') := fun w hg => by
            have := checkToken_any lang (tokOf l ⟨pk, kk, pt⟩) w (by rw [htt]; omega) hg
            rw [hte, htt] at this
            exact this
          have hext : s.extract kk pt = ⟨tt.toArray⟩ := by
            have h1 := ba_cut Hs.out kk pt
            have h2 : (l.drop kk).take (pt - kk) = tt := htt
            have h3 : (s.extract kk pt).data = tt.toArray := by rw [← h2, ← h1, Array.toArray_toList]
            exact ByteArray.ext h3
          have x0 : wr.cell? ⟨ga, oa + k * 3, none⟩ = some (.int .i64 pk) := (hfr.cell (p := ⟨ga, _, none⟩) hga).trans (hca _ _ t0)
          have x1 : wr.cell? ⟨ga, oa + k * 3 + 1, none⟩ = some (.string ⟨tt.toArray⟩) := (hfr.cell (p := ⟨ga, _, none⟩) hga).trans (hca _ _ t1)
          have x2 : wr.cell? ⟨ga, oa + k * 3 + 2, none⟩ = some (.int .i64 (kk : Int)) := (hfr.cell (p := ⟨ga, _, none⟩) hga).trans (hca _ _ t2)
          have hba : (ByteArray.mk tt.toArray).size = tt.length := by rw [ba_size, ba_mk]
          have sl1 := fun W => run_slice_string (P := Tryz.prog) (w := W) 9 s .i64 .i64 (kk : Int) (pt : Int) Tryz.underlying9 (by omega) (by omega) (by omega)
          simp only [Int.toNat_natCast, hext] at sl1
          have z1 : ((tt.length : Int) == 0) = false := by simp; intro h; rw [h] at htl; simp at htl
          have z2 : decide ((tt.length : Int) = 0) = false := decide_eq_false (by omega)
          have z3 : ¬ tt = [] := by intro h; rw [h] at htl; simp at htl
          have z4 : ¬ (tt.length : Int) = 0 := by omega
          have z5 : decide ((l.length : Int) < (kk : Int) + (tt.length : Int)) = false := decide_eq_false (by omega)
          have z6 : ¬ ((l.length : Int) < (kk : Int) + (tt.length : Int)) := by omega
          have z8 : decide ((s.size : Int) < (kk : Int) + (tt.length : Int)) = false := decide_eq_false (by omega)
          have z9 : decide ((s.size : Int) < (pt : Int)) = false := decide_eq_false (by omega)
          have z10 : ¬ ((s.size : Int) < (kk : Int) + (tt.length : Int)) := by omega
          have z11 : ¬ ((l.length : Int) < (pt : Int)) := by omega
          have z12 : ((kk : Int) + (tt.length : Int) + 9223372036854775808) % 18446744073709551616 - 9223372036854775808 = (pt : Int) := by omega
          have z13 : decide (l.length < pt) = false := decide_eq_false (by omega)
          have z14 : decide (l.length < kk + tt.length) = false := decide_eq_false (by omega)
          have z15 : ¬ (l.length < kk + tt.length) := by omega
          have z16 : (0 : Int) ≤ (kk : Int) + (tt.length : Int) := by omega
          have z17 : (kk : Int) + (tt.length : Int) ≤ 9000 := by omega
          have z18 : (kk : Int) + (tt.length : Int) ≤ (l.length : Int) := by omega
          have z19 : (kk : Int) + (tt.length : Int) ≤ (s.size : Int) := by omega
          have zw : IntKind.i64.wrap (pt : Int) = (pt : Int) := wrap_small _ (by omega) (by omega)
          have z7 : decide ((l.length : Int) < (pt : Int)) = false := decide_eq_false (by omega)
          have hkn : (0 : Int) ≤ k := by omega
          have hkm : (k : Int) < us.length := by omega
          have hkI : (0 : Int) ≤ kk := by omega
          have hpe : (kk : Int) + (tt.length : Int) = pt := by omega
          have hpl' : (pt : Int) ≤ 9000 := by omega
          have Ht := Lib.hid ht
          clear hne hn hca t0 t1 t2 ht htu hte hpf hpk hkk hkt htt hext
          go_wp2_with fail
          have hb5 := heap_alloc_new wr (Obj.cells #[Value.int .i64 pk, .string ⟨tt.toArray⟩, .int .i64 (kk : Int)] 43)
          have hf5 : Fr w3.heap.size w3 (wr.alloc (Obj.cells #[Value.int .i64 pk, .string ⟨tt.toArray⟩, .int .i64 (kk : Int)] 43)) := hfr.alloc _
          have hrow5 : Row8 w3.heap.size (paint (cov (ps.take k)) l) (wr.alloc (Obj.cells #[Value.int .i64 pk, .string ⟨tt.toArray⟩, .int .i64 (kk : Int)] 43)) := hrow.fr ((Fr.self wr).alloc _) hrow.lt
          generalize wr.alloc (Obj.cells #[Value.int .i64 pk, .string ⟨tt.toArray⟩, .int .i64 (kk : Int)] 43) = w5 at *
          have d0 : w5.cell? ⟨wr.heap.size, 0, none⟩ = some (.int .i64 pk) := by rw [Lib.cell_of_heap hb5]; rfl
          have d1 : w5.cell? ⟨wr.heap.size, 1, none⟩ = some (.string ⟨tt.toArray⟩) := by rw [Lib.cell_of_heap hb5]; rfl
          have d2 : w5.cell? ⟨wr.heap.size, 2, none⟩ = some (.int .i64 (kk : Int)) := by rw [Lib.cell_of_heap hb5]; rfl
          have hbl5 := block_lt hb5
          have HK := Lib.hid (fun (w6 : World) (h : Fr w5.drew.heap.size w5.drew w6) =>
            (⟨(h.cell (p := ⟨wr.heap.size, 0, none⟩) hbl5).trans d0, (h.cell (p := ⟨wr.heap.size, 1, none⟩) hbl5).trans d1, (h.cell (p := ⟨wr.heap.size, 2, none⟩) hbl5).trans d2⟩ :
              w6.cell? ⟨wr.heap.size, 0, none⟩ = some (.int .i64 pk) ∧ w6.cell? ⟨wr.heap.size, 1, none⟩ = some (.string ⟨tt.toArray⟩) ∧ w6.cell? ⟨wr.heap.size, 2, none⟩ = some (.int .i64 (kk : Int))))
          clear hb5 x0 x1 x2
          go_region_held3 (fun w' => w'.cell? ⟨wr.heap.size, 0, none⟩ = some (.int .i64 pk) ∧ w'.cell? ⟨wr.heap.size, 1, none⟩ = some (.string ⟨tt.toArray⟩) ∧ w'.cell? ⟨wr.heap.size, 2, none⟩ = some (.int .i64 (kk : Int)))
            (first | (exact HK.out _ hf6) | go_keep)
            (first
              | (go_at_call 17; refine Calls.mono (within_yes _ _ _ (by omega) _) ?_; rintro e w' ⟨rfl, rfl⟩)
              | (go_at_call 30; refine (hct.out _ (Glob.fr hg (by first | exact (hfa.trans hf5).drew | exact hfa.trans hf5))).mono ?_; rintro e w6 ⟨rfl, hf6⟩))
          have hf6' : Fr w3.heap.size w3 w6 := (hf5.drew).trans hf6
          have hrow6 : Row8 w3.heap.size (paint (cov (ps.take k)) l) w6 := hrow5.fr ((Fr.self w5).drew.trans hf6) hrow5.lt
          obtain ⟨g0, g1, g2⟩ := HK.out _ hf6
          clear d0 d1 d2 hrow5
          go_wp2_with fail
          go_loopw [15] (fun m wr => ∃ m' : Nat, kk ≤ m' ∧ m' ≤ pt ∧ m = .int .i64 m' ∧ Row8 w3.heap.size (whited l (cov (ps.take k)) kk m') wr ∧ Fr w3.heap.size w3 wr) (fun m _ => pt - (intOf m).toNat)
          case atStart => exact ⟨kk, Nat.le_refl _, by omega, rfl, by rw [whited_none l _ kk kk (Nat.le_refl _)]; exact hrow6, hf6'⟩
          case round =>
            obtain ⟨m, hm1, hm2, rfl, hrowi, hfri⟩ := hrel
            by_cases hlm : m < pt
            · have hcell := hrowi.cell m _ (List.getElem?_eq_getElem (by rw [whited_len]; omega))
              have hfz := hrowi.free m (by rw [whited_len]; omega)
              have hmI : (0 : Int) ≤ m := by omega
              have hmJ : (m : Int) < l.length := by omega
              have hmK : (m : Int) < (kk : Int) + (tt.length : Int) := by omega
              go_wp2_with fail
              go_roundw
              case rel => exact ⟨m + 1, by omega, by omega, by go_num, by rw [← whited_set l _ kk m hm1]; exact hrowi.set (by rw [whited_len]; omega), hfri.setCell (Nat.le_refl _) _⟩
              case measure => simp [intOf] <;> omega
            · have hmm : m = pt := by omega
              have hmK : ¬ ((m : Int) < (kk : Int) + (tt.length : Int)) := by omega
              go_wp2_with fail
              go_roundw
              case rel => exact ⟨k + 1, pt, by omega, by go_num, rfl, Lib.hid (fun q hq => Htn.out k _ q Ht.out hq), by rw [← whited_toks l ps k _ Ht.out]; subst hmm; exact hrowi, hfri⟩
              case measure => simp [intOf] <;> omega
        · have hrow' : Row8 w3.heap.size (paint (fun j => cov ps j || cov (ts.take 0) j) l) wr := by
            have := hrow
            rw [List.take_of_length_le (by omega)] at this
            rw [show (fun j => cov ps j || cov (ts.take 0) j) = cov ps from funext fun j => by simp [cov]]
            exact this
          clear hrow hn
          go_wp2_with fail
          go_loopw [16] (fun i wr => ∃ k : Nat, k ≤ ts.length ∧ i = .int .i64 k ∧ Hid (∀ q j, ts[k]? = some q → cov (ts.take k) j = true → j < q.fr) ∧ Row8 w3.heap.size (paint (fun j => cov ps j || cov (ts.take k) j) l) wr ∧ Fr w3.heap.size w3 wr) (fun i _ => ts.length - (intOf i).toNat)
          case atStart => exact ⟨0, by omega, rfl, Lib.hid (fun q j _ h => by simp [cov] at h), hrow', hfr⟩
          case round =>
            obtain ⟨k, hk, rfl, hn, hrow, hfr⟩ := hrel
            by_cases hlt : k < ts.length
            · have hne : ts ≠ [] := by intro h; rw [h] at hlt; exact absurd hlt (Nat.not_lt_zero _)
              obtain ⟨gb, rfl, hgb, hcb⟩ := HB.out.resolve_left hne
              obtain ⟨p, ht⟩ : ∃ p, ts[k]? = some p := ⟨_, List.getElem?_eq_getElem hlt⟩
              obtain ⟨hc0, hc1⟩ := comCells_get ts k _ ht
              obtain ⟨hp2, hpl⟩ := Hin.out p (List.mem_of_getElem? ht)
              have a0 : wr.cell? ⟨gb, k * 2, none⟩ = some (.int .i64 (p.fr : Int)) := (hfr.cell (p := ⟨gb, _, none⟩) hgb).trans (hcb _ _ hc0)
              have a1 : wr.cell? ⟨gb, k * 2 + 1, none⟩ = some (.int .i64 (p.to : Int)) := (hfr.cell (p := ⟨gb, _, none⟩) hgb).trans (hcb _ _ hc1)
              have hkn : (0 : Int) ≤ k := by omega
              have hkm : (k : Int) < ts.length := by omega
              have hfrI : (0 : Int) ≤ p.fr := by omega
              have hfrJ : (p.fr : Int) ≤ 9000 := by omega
              have Ht := Lib.hid ht
              have hb1 := hcb _ _ hc1
              have Hmem := Lib.hid (List.mem_of_getElem? ht)
              clear hne hcb hc0 hc1 ht
              obtain ⟨pk, pf, pt⟩ := p
              simp only at *
              go_wp2_with fail
              go_quiet (first | (go_at_call 17; refine quiet_left (within_yes _ _ _ ?_ _); omega))
              go_wp2_with fail
              go_loopw [17] (fun m wi => ∃ m' : Nat, pf ≤ m' ∧ m' ≤ pt ∧ m = .int .i64 m' ∧ Row8 w3.heap.size (whited l (fun j => cov ps j || cov (ts.take k) j) pf m') wi ∧ Fr w3.heap.size w3 wi) (fun m _ => pt - (intOf m).toNat)
              case atStart => exact ⟨pf, Nat.le_refl _, by omega, rfl, by rw [whited_none l _ pf pf (Nat.le_refl _)]; exact hrow.fr ((Fr.self wr).drewN _) hrow.lt, hfr.drewN _⟩
              case round =>
                obtain ⟨m, hm1, hm2, rfl, hrowi, hfri⟩ := hrel
                have a1 : wr.cell? ⟨gb, k * 2 + 1, none⟩ = some (.int .i64 (pt : Int)) := (hfri.cell (p := ⟨gb, _, none⟩) hgb).trans hb1
                by_cases hlm : m < pt
                · have hml : m < l.length := by omega
                  have hS : (fun j => cov ps j || cov (ts.take k) j) m = false := by
                    cases h1 : cov ps m with
                    | true => exact (Hap.out m h1 ((cov_iff _ _).2 ⟨_, Hmem.out, hm1, hlm⟩)).elim
                    | false =>
                      cases h2 : cov (ts.take k) m with
                      | true => have := hn.out _ m Ht.out h2; simp only at this; omega
                      | false => simp [h1, h2]
                  have hcell := hrowi.cell m l[m] (whited_at hS (List.getElem?_eq_getElem hml))
                  have hfz := hrowi.free m (by rw [whited_len]; omega)
                  obtain ⟨hms, hsm, -⟩ := ba_at Hs.out m (List.drop_eq_getElem_cons hml)
                  have hmI : (0 : Int) ≤ m := by omega
                  have hmJ : (m : Int) < l.length := by omega
                  have hmK : (m : Int) < pt := by omega
                  generalize l[m] = c at hcell hsm
                  by_cases h32 : c = 32
                  · subst h32
                    have hcell' : wr.cell? ⟨w3.heap.size, m, none⟩ = some (.int .u8 32) := hcell
                    clear hcell
                    go_wp2_with fail
                    go_roundw
                    case rel => exact ⟨m + 1, by omega, by omega, by go_num, by rw [← whited_set l _ pf m hm1]; exact hrowi.set (by rw [whited_len]; omega), hfri.setCell (Nat.le_refl _) _⟩
                    case measure => simp [intOf] <;> omega
                  · have hcn : ¬ ((c.toNat : Int) = 32) := by
                      intro h
                      exact h32 (UInt8.toNat_inj.1 (by rw [show (32 : UInt8).toNat = 32 from rfl]; omega))
                    have hcd : decide ((c.toNat : Int) = 32) = false := decide_eq_false hcn
                    clear hsm
                    go_wp2_with fail
                    go_roundw
                    case rel => exact ⟨m + 1, by omega, by omega, by go_num, by rw [← whited_set l _ pf m hm1]; exact hrowi.set (by rw [whited_len]; omega), hfri.setCell (Nat.le_refl _) _⟩
                    case measure => simp [intOf] <;> omega
                · have hmm : m = pt := by omega
                  go_wp2_with fail
                  go_roundw
                  case rel =>
                    refine ⟨k + 1, by omega, by go_num, Lib.hid (fun q j hq hj => ?_), by rw [← whited_coms l _ ts k _ Ht.out]; subst hmm; exact hrowi, hfri⟩
                    have h1 := Hnx.out k _ q Ht.out hq
                    simp only at h1
                    rw [cov_more ts k _ Ht.out, Bool.or_eq_true] at hj
                    rcases hj with hj | hj
                    · have := hn.out _ j Ht.out hj; simp only at this; omega
                    · have := of_decide_eq_true hj; simp only at this; omega
                  case measure => simp [intOf] <;> omega
            · have hrow' : Row8 w3.heap.size (paint (fun j => cov ps j || cov ts j) l) wr := by
                have := hrow
                rw [List.take_of_length_le (by omega)] at this
                exact this
              clear hrow hn
              go_wp2_with fail
              go_loopw [18] (fun i wr => ∃ k : Nat, k ≤ l.length ∧ i = .int .i64 k ∧ Row8 w3.heap.size (paint (fun j => cov ps j || cov ts j) l) wr ∧ Fr w3.heap.size w3 wr) (fun i _ => l.length - (intOf i).toNat)
              case atStart => exact ⟨0, by omega, rfl, hrow', hfr⟩
              case round =>
                obtain ⟨k, hk, rfl, hrow, hfr⟩ := hrel
                by_cases hlt : k < l.length
                · have hgk := List.getElem?_eq_getElem (l := paint (fun j => cov ps j || cov ts j) l) (i := k) (by rw [paint_len]; exact hlt)
                  have hcell := hrow.cell k _ hgk
                  have h3 := Hwh.out k _ hgk
                  generalize (paint (fun j => cov ps j || cov ts j) l)[k]'(by rw [paint_len]; exact hlt) = c at hcell h3
                  clear hgk
                  have hkn : (0 : Int) ≤ k := by omega
                  have hkm : (k : Int) < l.length := by omega
                  rcases h3 with rfl | rfl | rfl
                  · have hcell' : wr.cell? ⟨w3.heap.size, k, none⟩ = some (.int .u8 32) := hcell
                    clear hcell
                    go_wp2_with fail
                    go_roundw
                    case rel => exact ⟨k + 1, by omega, by go_num, hrow, hfr⟩
                    case measure => simp [intOf] <;> omega
                  · have hcell' : wr.cell? ⟨w3.heap.size, k, none⟩ = some (.int .u8 10) := hcell
                    clear hcell
                    go_wp2_with fail
                    go_roundw
                    case rel => exact ⟨k + 1, by omega, by go_num, hrow, hfr⟩
                    case measure => simp [intOf] <;> omega
                  · have hcell' : wr.cell? ⟨w3.heap.size, k, none⟩ = some (.int .u8 9) := hcell
                    clear hcell
                    go_wp2_with fail
                    go_roundw
                    case rel => exact ⟨k + 1, by omega, by go_num, hrow, hfr⟩
                    case measure => simp [intOf] <;> omega
                · go_wp2_with fail
                  go_ret
                  exact ⟨rfl, hfa.trans hfr⟩
    · have hts : outComs lang l = [] := by unfold outComs outPcs; rw [if_neg hE]; rfl
      have hus : outToks lang l = [] := by unfold outToks outPcs; rw [if_neg hE]; rfl
      have Hts := Lib.hid hts; have Hus := Lib.hid hus
      obtain ⟨E, hEe⟩ : ∃ E, (readErr lang l).2 = E := ⟨_, rfl⟩
      rw [hEe] at hE
      have HE := Lib.hid hEe
      have hE2 : (E == 0) = false := by simpa using hE
      clear hs hlen hm hsh hts hus hEe hol hul
      go_enter Tryz.func11, Tryz.ntmps11
      go_wp2_with (first
        | (go_at_call 12; refine (Haw.out).mono ?_; rintro e w1 ⟨rfl, hf⟩)
        | (go_at_call 13; refine (Hsh.out _).mono ?_; rintro e w'' ⟨rfl, rfl⟩; rw [Hb.out]))
      refine (Hto.out _ (Glob.fr hg hf)).mono ?_
      rintro e w2 ⟨v, rfl, hf2, hown⟩
      rw [HE.out]
      clear hown
      go_wp2_with fail
      refine (Hco.out _ (Glob.fr hg (hf.trans hf2))).mono ?_
      rintro e w3 ⟨v2, rfl, hf3, howc⟩
      rw [HE.out]
      clear howc
      go_wp2_with fail
      go_ret
      exact ⟨rfl, (hf.trans hf2).trans hf3⟩
end Go.Proofs.YtknbmnckegonlaaGreatDoor
