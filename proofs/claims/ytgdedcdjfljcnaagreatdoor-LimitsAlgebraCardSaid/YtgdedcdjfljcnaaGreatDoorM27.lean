/- The contract on Sizer.Type. Whether the lists and texts of a type are short: narrow, the plain function. -/
import Derived.Test.YtgdedcdjfljcnaaGreatDoorM20
import Derived.Deep.CutBlock
import Derived.Test.YtgdedcdjfljcnaaGreatDoorM28
namespace Go.Proofs.YtgdedcdjfljcnaaGreatDoor
open Go.RowKit

set_option maxRecDepth 100000 in
set_option maxHeartbeats 4000000 in
theorem sizerType_any {B : Nat} {w0 : World} {x : TyT} {cs : List Value} (hrep : RepTy B w0 x cs) : ∀ (w : World) (g : Nat) (left levels : Int), Below B w0 w → B ≤ w.heap.size → B ≤ g → SzIs w g (left, false) → 0 ≤ left → left ≤ 4611686018427387904 → levels ≤ 4611686018427387904 → -4611686018427387904 ≤ levels →
    Calls Tryz.prog 21 #[.pointer (some ⟨g, 0, none⟩), .agg cs.toArray, .int .i64 levels] w fun e w' => e = .returned (.tuple #[]) ∧ SzIs w' g (szTy x levels (left, false)) ∧ Kept g w w' := by
  induction hrep with
  | mk k name tags fds fts opn root of lims A1 c1 A2 c2 A3 c3 A4 c4 CF CT CO CL h1 h2 h3 h4 hft hk hroot hname hT hTo hF hFd hFt hO hOt hL hLn ih1 ih2 =>
    intro w g left levels hb hbs hg hsz h0 hl hl1 hl0
    have hlt := hsz.lt
    have hfl : fds.length ≤ 9223372036854775807 := h2.2.2
    have hol : of.length ≤ 9223372036854775807 := h3.2.2
    have Hme := Lib.hid (fun w' (h : SzIs w' g (left, false)) => meet_any g left levels w' h h0 hl)
    have hq := szMeet_ok levels (left, false)
    have hsv : szTy (.mk k name tags fds fts opn root of lims) levels (left, false) = if (szMeet levels (left, false)).2 = true then szMeet levels (left, false) else szTys of (levels - 1) (szFts fts (fds.map FD.dflt) (levels - 1) (szMeet levels (left, false))) := by rw [szTy]
    rw [szTys_fold, szFts_fold _ _ _ _ (by rw [List.length_map, hft])] at hsv
    have Hsv := Lib.hid hsv
    have Hsz := Lib.hid (hsz.alloc (.cells #[.int .i64 k, .string ⟨name.toArray⟩, .slice A1 tags.length c1, .slice A2 fds.length c2, .bool opn, .int .i64 root, .slice A3 of.length c3, .slice A4 lims.length c4] 28))
    generalize szMeet levels (left, false) = q at *
    obtain ⟨q1, q2⟩ := q
    simp only at hq
    have hka := (Kept.refl g w).alloc (.cells #[.int .i64 k, .string ⟨name.toArray⟩, .slice A1 tags.length c1, .slice A2 fds.length c2, .bool opn, .int .i64 root, .slice A3 of.length c3, .slice A4 lims.length c4] 28)
    have HF := Lib.hid hF; have HFd := Lib.hid hFd; have HFt := Lib.hid hFt; have HO := Lib.hid hO; have HOt := Lib.hid hOt
    have Ih1 := Lib.hid ih1; have Ih2 := Lib.hid ih2
    clear hsv hsz hF hFd hFt hO hOt hL hLn ih1 ih2 hT hTo
    cases q2 with
    | true =>
      go_enter Tryz.func21, Tryz.ntmps21
      go_wp2_with (go_at_call 38; refine (Hme.out _ Hsz.out).mono ?_; rintro e w1 ⟨rfl, hs1, hk1⟩)
      (try simp only [Exit.inBlock, Exit.then]); refine bodyPost_ret (results_none rfl _ _ _) rfl ?_
      exact ⟨rfl, by rw [Hsv.out, if_pos trivial]; exact hs1, hka.trans hk1⟩
    | false =>
      have hql := hq.2 rfl
      clear hka
      go_enter Tryz.func21, Tryz.ntmps21
      go_upto_region 2 with (go_at_call 38; refine (Hme.out _ Hsz.out).mono ?_; rintro e w1 ⟨rfl, hs1, hk1⟩)
      have hka := ((Kept.refl g w).alloc (.cells #[.int .i64 k, .string ⟨name.toArray⟩, .slice A1 tags.length c1, .slice A2 fds.length c2, .bool opn, .int .i64 root, .slice A3 of.length c3, .slice A4 lims.length c4] 28)).trans hk1
      have hn1 : w.heap.size < w1.heap.size := by have := hk1.size; simp at this; omega
      have c3' : w1.cell? ⟨w.heap.size, 3, none⟩ = some (.slice A2 fds.length c2) := (hk1.cell (p := ⟨w.heap.size, 3, none⟩) (by simp) (by simp; omega)).trans (cell_new w _ _ 3)
      have c6' : w1.cell? ⟨w.heap.size, 6, none⟩ = some (.slice A3 of.length c3) := (hk1.cell (p := ⟨w.heap.size, 6, none⟩) (by simp) (by simp; omega)).trans (cell_new w _ _ 6)
      have Hk1 := Lib.hid hka
      have hLl : (fts.zip (fds.map FD.dflt)).length = fds.length := by rw [List.length_zip, List.length_map, hft]; simp
      have hLg : ∀ (m : Nat) (ft : TyT) (fd : FD), fts[m]? = some ft → fds[m]? = some fd → (fts.zip (fds.map FD.dflt))[m]? = some (ft, fd.dflt) := fun m ft fd h1 h2 => by rw [List.getElem?_zip_eq_some, List.getElem?_map, h2]; exact ⟨h1, rfl⟩
      generalize fts.zip (fds.map FD.dflt) = L at *
      have HLg := Lib.hid hLg
      have Hme2 := Lib.hid hs1
      have Hft := Lib.hid hft
      clear hk1 hka hLg hs1 Hme hft
      go_upto_block 0 with fail
      go_cut [6, 7] from 13 to 67 (fun s6 s7 wx => Hid (SzIs wx g (L.foldl (stF (levels - 1)) (q1, false))) ∧ Kept g w1 wx)
      case first =>
        go_wp2_with fail
        go_loopw [6, 7] (fun i _ wr => ∃ m : Nat, m ≤ fds.length ∧ i = .int .i64 m ∧ Hid (SzIs wr g ((L.take m).foldl (stF (levels - 1)) (q1, false))) ∧ Kept g w1 wr) (fun i _ _ => fds.length - (intOf i).toNat)
        case atStart => exact ⟨0, by omega, rfl, Hme2.out, Kept.refl g w1⟩
        case round =>
          obtain ⟨m, hm, rfl, hsm, hkm⟩ := hrel
          have cD' : wr.cell? ⟨w.heap.size, 3, none⟩ = some (.slice A2 fds.length c2) := (hkm.cell (p := ⟨w.heap.size, 3, none⟩) hn1 (by simp; omega)).trans c3'
          obtain ⟨g0, g1, f0, f1⟩ := hsm.out.cells
          have hok := foldl_ok (stF_stop (levels - 1)) (L.take m) (q1, false) (fun x _ p hp => stF_ok (levels - 1) x p hp)
          have hstop := foldl_stopped (stF_stop (levels - 1)) (l := L) (p := (q1, false)) (m := m)
          have hfin : ¬ m < fds.length → L.foldl (stF (levels - 1)) (q1, false) = (L.take m).foldl (stF (levels - 1)) (q1, false) := fun h => by rw [List.take_of_length_le (by omega)]
          have hsn : ∀ y, L[m]? = some y → (L.take (m + 1)).foldl (stF (levels - 1)) (q1, false) = stF (levels - 1) ((L.take m).foldl (stF (levels - 1)) (q1, false)) y := fun y hy => foldl_next _ hy
          generalize (L.take m).foldl (stF (levels - 1)) (q1, false) = p at *
          obtain ⟨p1, p2⟩ := p
          simp only at hok g0 g1 hstop
          by_cases hml : m < fds.length
          · cases p2 with
            | true =>
              have Hst := Lib.hid (hstop rfl)
              clear hstop hfin hsn hok
              go_wp2_with fail
              go_meet
              exact ⟨by rw [Hst.out]; exact hsm, hkm⟩
            | false =>
              obtain ⟨ft, hft⟩ : ∃ ft, fts[m]? = some ft := ⟨_, List.getElem?_eq_getElem (by rw [Hft.out]; exact hml)⟩
              obtain ⟨fd, hfd⟩ : ∃ fd, fds[m]? = some fd := ⟨_, List.getElem?_eq_getElem hml⟩
              have Hsn := Lib.hid (hsn _ (HLg.out m ft fd hft hfd))
              obtain ⟨b, off, rfl, hbB, hcl⟩ := HF.out.resolve_left (by omega)
              obtain ⟨D, cd, CV, hCF, hokD, hDr, hDv, -⟩ := HFd.out m fd hfd
              obtain ⟨d0, d1, d2, d3, d4, d5, d6, d7, hCT⟩ : ∃ d0 d1 d2 d3 d4 d5 d6 d7, CT m = [d0, d1, d2, d3, d4, d5, d6, d7] := by
                have := (HFt.out m ft hft).eight
                match CT m, this with
                | [d0, d1, d2, d3, d4, d5, d6, d7], _ => exact ⟨d0, d1, d2, d3, d4, d5, d6, d7, rfl⟩
              rw [hCT] at hCF
              have hbw : Below B w0 wr := hb.trans ((Hk1.out.trans hkm).below hg hbs)
              have hcl' := hcl m hml
              rw [hCF] at hcl'
              have k2 : wr.cell? ⟨b, off + m * 13 + 2, none⟩ = some d0 := (hbw.cell (p := ⟨b, _, none⟩) hbB).trans (hcl' 2 d0 rfl)
              have k3 : wr.cell? ⟨b, off + m * 13 + 3, none⟩ = some d1 := (hbw.cell (p := ⟨b, _, none⟩) hbB).trans (hcl' 3 d1 rfl)
              have k4 : wr.cell? ⟨b, off + m * 13 + 4, none⟩ = some d2 := (hbw.cell (p := ⟨b, _, none⟩) hbB).trans (hcl' 4 d2 rfl)
              have k5 : wr.cell? ⟨b, off + m * 13 + 5, none⟩ = some d3 := (hbw.cell (p := ⟨b, _, none⟩) hbB).trans (hcl' 5 d3 rfl)
              have k6 : wr.cell? ⟨b, off + m * 13 + 6, none⟩ = some d4 := (hbw.cell (p := ⟨b, _, none⟩) hbB).trans (hcl' 6 d4 rfl)
              have k7 : wr.cell? ⟨b, off + m * 13 + 7, none⟩ = some d5 := (hbw.cell (p := ⟨b, _, none⟩) hbB).trans (hcl' 7 d5 rfl)
              have k8 : wr.cell? ⟨b, off + m * 13 + 8, none⟩ = some d6 := (hbw.cell (p := ⟨b, _, none⟩) hbB).trans (hcl' 8 d6 rfl)
              have k9 : wr.cell? ⟨b, off + m * 13 + 9, none⟩ = some d7 := (hbw.cell (p := ⟨b, _, none⟩) hbB).trans (hcl' 9 d7 rfl)
              have k11 : wr.cell? ⟨b, off + m * 13 + 11, none⟩ = some (.slice D fd.dflt.length cd) := (hbw.cell (p := ⟨b, _, none⟩) hbB).trans (hcl' 11 _ rfl)
              have hih := Ih1.out m ft hft wr g p1 (levels - 1) hbw (by have := (Hk1.out.trans hkm).size; omega) hg hsm.out (by have := hok.2 (by omega) rfl; omega) (by omega) (by omega) (by omega)
              rw [hCT] at hih
              have Hih := Lib.hid hih
              have hP := szTy_ok ft (levels - 1) (p1, false)
              have hpl : p1 ≤ q1 := hok.1
              generalize hPe : szTy ft (levels - 1) (p1, false) = P at *
              have hmn : (0 : Int) ≤ m := by omega
              have hmm : (m : Int) < fds.length := by omega
              have Hkm := Lib.hid hkm
              have HDr := Lib.hid hDr; have HDv := Lib.hid hDv
              have hbg : b ≠ g := by omega
              have hbr : b < wr.heap.size := Nat.lt_of_lt_of_le hbB (by have := (Hk1.out.trans hkm).size; omega)
              have hwr : w.heap.size < wr.heap.size := Nat.lt_of_lt_of_le hn1 hkm.size
              clear hcl hcl' hih hsn hstop hfin hCF hbw hDr hDv hkm
              have hPe2 := Lib.hid hPe
              clear hPe
              obtain ⟨wo, rfl⟩ : ∃ x, x = wr := ⟨_, rfl⟩
              go_upto_block 1 with fail
              go_cut [7] from 27 to 67 (fun s7 wx => Hid (SzIs wx g (szList fd.dflt (levels - 1) P)) ∧ Kept g wo wx)
              case first =>
                go_wp2_with (go_at_call 21; refine (Hih.out).mono ?_; rintro e w2 ⟨rfl, hs2, hk2⟩)
                have e3 : w2.cell? ⟨w.heap.size, 3, none⟩ = some (.slice (some ⟨b, off, none⟩) fds.length c2) := (hk2.cell (p := ⟨w.heap.size, 3, none⟩) hwr (by simp; omega)).trans cD'
                have e11 : w2.cell? ⟨b, off + m * 13 + 11, none⟩ = some (.slice D fd.dflt.length cd) := (hk2.cell (p := ⟨b, off + m * 13 + 11, none⟩) hbr hbg).trans k11
                have hbr2 : b < w2.heap.size := Nat.lt_of_lt_of_le hbr hk2.size
                have hwr2 : w.heap.size < w2.heap.size := Nat.lt_of_lt_of_le hwr hk2.size
                have hB2 : Below B w0 w2 := hb.trans (((Hk1.out.trans Hkm.out).trans hk2).below hg hbs)
                have hB2s : B ≤ w2.heap.size := Nat.le_trans hbs ((Hk1.out.trans Hkm.out).trans hk2).size
                have Hk2 := Lib.hid hk2
                have Hs2 := Lib.hid hs2
                have hdl : fd.dflt.length ≤ 9223372036854775807 := hokD.2.2
                have Hih1 := Lib.hid Hih
                clear k2 k3 k4 k5 k6 k7 k8 k9 k11 cD' g0 g1 f0 f1 hk2 hs2 Hih hsm hwr hbr
                go_loopw [7] (fun i wr => ∃ nn : Nat, nn ≤ fd.dflt.length ∧ i = .int .i64 nn ∧ Hid (SzIs wr g (szList (fd.dflt.take nn) (levels - 1) P)) ∧ Kept g w2 wr) (fun i _ => fd.dflt.length - (intOf i).toNat)
                case atStart => exact ⟨0, by omega, rfl, by rw [List.take_zero, szList]; exact Hs2.out, Kept.refl g w2⟩
                case round =>
                  obtain ⟨nn, hn, rfl, hsn2, hkn⟩ := hrel
                  have a3 := (hkn.cell (p := ⟨w.heap.size, 3, none⟩) hwr2 (by simp; omega)).trans e3
                  have a11 := (hkn.cell (p := ⟨b, off + m * 13 + 11, none⟩) hbr2 hbg).trans e11
                  obtain ⟨g0, g1, f0, f1⟩ := hsn2.out.cells
                  have hok2 := szList_sz (fd.dflt.take nn) (levels - 1) (p1, false) P hP
                  have hstop := szList_take (levels - 1) fd.dflt P nn
                  have hfin : ¬ nn < fd.dflt.length → szList fd.dflt (levels - 1) P = szList (fd.dflt.take nn) (levels - 1) P := fun h => by rw [List.take_of_length_le (by omega)]
                  have hsnn : ∀ y, fd.dflt[nn]? = some y → szList (fd.dflt.take (nn + 1)) (levels - 1) P = if (szList (fd.dflt.take nn) (levels - 1) P).2 = true then szList (fd.dflt.take nn) (levels - 1) P else szVal y (levels - 1) (szList (fd.dflt.take nn) (levels - 1) P) := fun y hy => by
                    rw [List.take_add_one, hy]; exact szList_snoc _ _ _ _
                  generalize szList (fd.dflt.take nn) (levels - 1) P = r at *
                  obtain ⟨r1, r2⟩ := r
                  simp only at hok2 g0 g1 hstop
                  by_cases hnl : nn < fd.dflt.length
                  · cases r2 with
                    | true =>
                      have Hst := Lib.hid (hstop rfl)
                      clear hstop hfin hsnn hok2
                      go_wp2_with fail
                      go_meet
                      exact ⟨by rw [Hst.out]; exact hsn2, Hk2.out.trans hkn⟩
                    | false =>
                      obtain ⟨y, hy⟩ : ∃ y, fd.dflt[nn]? = some y := ⟨_, List.getElem?_eq_getElem hnl⟩
                      obtain ⟨b2, off2, rfl, hbB2, hcl⟩ := HDr.out.resolve_left (by omega)
                      obtain ⟨v0, v1, v2, v3, v4, v5, hC⟩ := six_of (HDv.out nn y hy).six
                      have hbw : Below B w0 wr := hB2.trans (hkn.below hg hB2s)
                      have hcl' := hcl nn hnl
                      rw [hC] at hcl'
                      have k0 : wr.cell? ⟨b2, off2 + nn * 6, none⟩ = some v0 := (hbw.cell (p := ⟨b2, _, none⟩) hbB2).trans (hcl' 0 v0 rfl)
                      have k1 : wr.cell? ⟨b2, off2 + nn * 6 + 1, none⟩ = some v1 := (hbw.cell (p := ⟨b2, _, none⟩) hbB2).trans (hcl' 1 v1 rfl)
                      have k2 : wr.cell? ⟨b2, off2 + nn * 6 + 2, none⟩ = some v2 := (hbw.cell (p := ⟨b2, _, none⟩) hbB2).trans (hcl' 2 v2 rfl)
                      have k3 : wr.cell? ⟨b2, off2 + nn * 6 + 3, none⟩ = some v3 := (hbw.cell (p := ⟨b2, _, none⟩) hbB2).trans (hcl' 3 v3 rfl)
                      have k4 : wr.cell? ⟨b2, off2 + nn * 6 + 4, none⟩ = some v4 := (hbw.cell (p := ⟨b2, _, none⟩) hbB2).trans (hcl' 4 v4 rfl)
                      have k5 : wr.cell? ⟨b2, off2 + nn * 6 + 5, none⟩ = some v5 := (hbw.cell (p := ⟨b2, _, none⟩) hbB2).trans (hcl' 5 v5 rfl)
                      have hih := sizerValue_any (HDv.out nn y hy) wr g r1 (levels - 1) hbw (Nat.le_trans hB2s hkn.size) hg hsn2.out (hok2.2 rfl) (by have := hok2.1; simp only at this; omega) (by omega) (by omega)
                      rw [hC] at hih
                      have Hih := Lib.hid hih
                      have Hsnn := Lib.hid (hsnn y hy)
                      have hnn : (0 : Int) ≤ nn := by omega
                      have hnm : (nn : Int) < fd.dflt.length := by omega
                      have Hkn := Lib.hid hkn
                      clear hcl hcl' hih hsnn hstop hfin hy hC hbw hkn hok2
                      go_wp2_with (go_at_call 39; refine (Hih.out).mono ?_; rintro e w3 ⟨rfl, hs3, hk3⟩)
                      go_roundw
                      case rel => exact ⟨nn + 1, by omega, by go_num, by rw [Hsnn.out, if_neg (by simp)]; exact hs3, Hkn.out.trans hk3⟩
                      case measure => simp [intOf] <;> omega
                  · have Hf := Lib.hid (hfin hnl)
                    clear hstop hfin hsnn hok2
                    go_wp2_with fail
                    go_meet
                    exact ⟨by rw [Hf.out]; exact hsn2, Hk2.out.trans hkn⟩
              case rest =>
                obtain ⟨hsx, hkx⟩ := hcut
                go_wp2_with fail
                go_roundw
                case rel => exact ⟨m + 1, by omega, by go_num, by rw [Hsn.out]; unfold stF; rw [if_neg (by simp), hPe2.out]; exact hsx, Hkm.out.trans hkx⟩
                case measure => simp [intOf] <;> omega
          · have Hf := Lib.hid (hfin hml)
            clear hstop hfin hsn hok
            go_wp2_with fail
            go_meet
            exact ⟨by rw [Hf.out]; exact hsm, hkm⟩
      case rest =>
        obtain ⟨hsx, hkx⟩ := hcut
        have e6 := (hkx.cell (p := ⟨w.heap.size, 6, none⟩) hn1 (by simp; omega)).trans c6'
        have hQ := foldl_ok (stF_stop (levels - 1)) L (q1, false) (fun x _ p hp => stF_ok (levels - 1) x p hp)
        have Hk3 := Lib.hid (Hk1.out.trans hkx)
        have hsz3 := hkx.size
        generalize L.foldl (stF (levels - 1)) (q1, false) = Q at *
        clear hkx
        simp only at hQ
        go_wp2_with fail
        go_loopw [8] (fun i wr => ∃ m : Nat, m ≤ of.length ∧ i = .int .i64 m ∧ Hid (SzIs wr g ((of.take m).foldl (stT (levels - 1)) Q)) ∧ Kept g wc wr) (fun i _ => of.length - (intOf i).toNat)
        case atStart => exact ⟨0, by omega, rfl, hsx, Kept.refl g wc⟩
        case round =>
          obtain ⟨m, hm, rfl, hsm, hkm⟩ := hrel
          have cD' : wr.cell? ⟨w.heap.size, 6, none⟩ = some (.slice A3 of.length c3) := (hkm.cell (p := ⟨w.heap.size, 6, none⟩) (Nat.lt_of_lt_of_le hn1 hsz3) (by simp; omega)).trans e6
          obtain ⟨g0, g1, f0, f1⟩ := hsm.out.cells
          have hok := foldl_ok (stT_stop (levels - 1)) (of.take m) Q (fun x _ p hp => stT_ok (levels - 1) x p hp)
          have hokQ : ((of.take m).foldl (stT (levels - 1)) Q).2 = false → 0 ≤ ((of.take m).foldl (stT (levels - 1)) Q).1 := fun h => by
            cases hb : Q.2 with
            | false => exact hok.2 (hQ.2 (by omega) hb) h
            | true => rw [foldl_stop (stT_stop (levels - 1)) _ _ hb, hb] at h; cases h
          have hstop := foldl_stopped (stT_stop (levels - 1)) (l := of) (p := Q) (m := m)
          have hfin : ¬ m < of.length → of.foldl (stT (levels - 1)) Q = (of.take m).foldl (stT (levels - 1)) Q := fun h => by rw [List.take_of_length_le (by omega)]
          have hsn : ∀ y, of[m]? = some y → (of.take (m + 1)).foldl (stT (levels - 1)) Q = stT (levels - 1) ((of.take m).foldl (stT (levels - 1)) Q) y := fun y hy => foldl_next _ hy
          generalize (of.take m).foldl (stT (levels - 1)) Q = p at *
          obtain ⟨p1, p2⟩ := p
          simp only at hok hokQ g0 g1 hstop
          by_cases hml : m < of.length
          · cases p2 with
            | true =>
              have Hst := Lib.hid (hstop rfl)
              clear hstop hfin hsn hok
              go_wp2_with fail
              go_end0
              exact ⟨rfl, by rw [Hsv.out, if_neg (by simp), Hst.out]; exact hsm.out, Hk3.out.trans hkm⟩
            | false =>
              obtain ⟨ft, hft⟩ : ∃ ft, of[m]? = some ft := ⟨_, List.getElem?_eq_getElem hml⟩
              have Hsn := Lib.hid (hsn _ hft)
              obtain ⟨b, off, rfl, hbB, hcl⟩ := HO.out.resolve_left (by omega)
              obtain ⟨d0, d1, d2, d3, d4, d5, d6, d7, hCT⟩ : ∃ d0 d1 d2 d3 d4 d5 d6 d7, CO m = [d0, d1, d2, d3, d4, d5, d6, d7] := by
                have := (HOt.out m ft hft).eight
                match CO m, this with
                | [d0, d1, d2, d3, d4, d5, d6, d7], _ => exact ⟨d0, d1, d2, d3, d4, d5, d6, d7, rfl⟩
              have hbw : Below B w0 wr := hb.trans ((Hk3.out.trans hkm).below hg hbs)
              have hcl' := hcl m hml
              rw [hCT] at hcl'
              have k0 : wr.cell? ⟨b, off + m * 8, none⟩ = some d0 := (hbw.cell (p := ⟨b, _, none⟩) hbB).trans (hcl' 0 d0 rfl)
              have k1 : wr.cell? ⟨b, off + m * 8 + 1, none⟩ = some d1 := (hbw.cell (p := ⟨b, _, none⟩) hbB).trans (hcl' 1 d1 rfl)
              have k2 : wr.cell? ⟨b, off + m * 8 + 2, none⟩ = some d2 := (hbw.cell (p := ⟨b, _, none⟩) hbB).trans (hcl' 2 d2 rfl)
              have k3 : wr.cell? ⟨b, off + m * 8 + 3, none⟩ = some d3 := (hbw.cell (p := ⟨b, _, none⟩) hbB).trans (hcl' 3 d3 rfl)
              have k4 : wr.cell? ⟨b, off + m * 8 + 4, none⟩ = some d4 := (hbw.cell (p := ⟨b, _, none⟩) hbB).trans (hcl' 4 d4 rfl)
              have k5 : wr.cell? ⟨b, off + m * 8 + 5, none⟩ = some d5 := (hbw.cell (p := ⟨b, _, none⟩) hbB).trans (hcl' 5 d5 rfl)
              have k6 : wr.cell? ⟨b, off + m * 8 + 6, none⟩ = some d6 := (hbw.cell (p := ⟨b, _, none⟩) hbB).trans (hcl' 6 d6 rfl)
              have k7 : wr.cell? ⟨b, off + m * 8 + 7, none⟩ = some d7 := (hbw.cell (p := ⟨b, _, none⟩) hbB).trans (hcl' 7 d7 rfl)
              have hih := Ih2.out m ft hft wr g p1 (levels - 1) hbw (by have := (Hk3.out.trans hkm).size; omega) hg hsm.out (hokQ rfl) (by have := hok.1; have := hQ.1; omega) (by omega) (by omega)
              rw [hCT] at hih
              have Hih := Lib.hid hih
              have hmn : (0 : Int) ≤ m := by omega
              have hmm : (m : Int) < of.length := by omega
              have Hkm := Lib.hid hkm
              clear hcl hcl' hih hsn hstop hfin hbw hkm hok hokQ hCT hft
              go_wp2_with (go_at_call 21; refine (Hih.out).mono ?_; rintro e w2 ⟨rfl, hs2, hk2⟩)
              go_roundw
              case rel => exact ⟨m + 1, by omega, by go_num, by rw [Hsn.out]; unfold stT; rw [if_neg (by simp)]; exact hs2, Hkm.out.trans hk2⟩
              case measure => simp [intOf] <;> omega
          · have Hf := Lib.hid (hfin hml)
            clear hstop hfin hsn hok
            go_wp2_with fail
            go_end0
            exact ⟨rfl, by rw [Hsv.out, if_neg (by simp), Hf.out]; exact hsm.out, Hk3.out.trans hkm⟩
end Go.Proofs.YtgdedcdjfljcnaaGreatDoor
namespace Go.Proofs.YtgdedcdjfljcnaaGreatDoor
open Go.RowKit

def nodeSlim (x : LN) : Bool := decide (x.text.length ≤ 500) && decide (x.args.length ≤ 5)
mutual
def narrowT : TyT → Bool
  | .mk _ name tags fds fts _ _ of lims => decide (name.length ≤ 60 ∧ tags.length ≤ 8 ∧ fds.length ≤ 40 ∧ of.length ≤ 4 ∧ lims.length ≤ 40) && (lims.all nodeSlim && (narrowF fts fds && narrowL of))
def narrowF : List TyT → List FD → Bool
  | [], _ => true
  | x :: t, ds => (match ds with | [] => true | d :: _ => decide (d.name.length ≤ 60 ∧ d.dflt.length ≤ 3) && (narrowT x && d.dflt.all fewV)) && narrowF t ds.tail
def narrowL : List TyT → Bool
  | [] => true
  | x :: t => narrowT x && narrowL t
end
def fieldSlim (p : TyT × FD) : Bool := decide (p.2.name.length ≤ 60 ∧ p.2.dflt.length ≤ 3) && (narrowT p.1 && p.2.dflt.all fewV)
theorem narrowF_all : ∀ (l : List TyT) (ds : List FD), l.length = ds.length → narrowF l ds = (l.zip ds).all fieldSlim
  | [], ds, _ => by rw [narrowF]; rfl
  | x :: t, [], h => by simp at h
  | x :: t, d :: ds, h => by
    rw [narrowF, List.zip_cons_cons, List.all_cons, List.tail_cons, narrowF_all t ds (by simpa using h)]
    rfl
theorem narrowL_all : ∀ l : List TyT, narrowL l = l.all narrowT
  | [] => by rw [narrowL]; rfl
  | x :: t => by rw [narrowL, narrowL_all t]; rfl
theorem all_false {α : Type} {p : α → Bool} {l : List α} {m : Nat} {x : α} (hx : l[m]? = some x) (hp : p x = false) : l.all p = false := by
  rw [List.all_eq_false]
  exact ⟨x, List.mem_of_getElem? hx, by rw [hp]; decide⟩
end Go.Proofs.YtgdedcdjfljcnaaGreatDoor
