/- The contract on narrow. -/
import Derived.Test.YtgdedcdjfljcnaaGreatDoorM27
namespace Go.Proofs.YtgdedcdjfljcnaaGreatDoor
open Go.RowKit

theorem RepT.shape {S : Nat → Prop} {w : World} {x : TyT} {cs : List Value} (h : RepT S w x cs) : ∃ fk fs P1 n1 e1 P2 n2 e2 fo fr P3 n3 e3 P4 n4 e4, cs = [.int .i64 fk, .string fs, .slice P1 n1 e1, .slice P2 n2 e2, .bool fo, .int .i64 fr, .slice P3 n3 e3, .slice P4 n4 e4] := by
  cases h
  exact ⟨_, _, _, _, _, _, _, _, _, _, _, _, _, _, _, _, rfl⟩
set_option maxRecDepth 100000 in
set_option maxHeartbeats 4000000 in
theorem narrow_any {B : Nat} {w0 : World} {x : TyT} {cs : List Value} (hrep : RepTy B w0 x cs) : ∀ (w : World), Below B w0 w → B ≤ w.heap.size →
    Calls Tryz.prog 22 #[.agg cs.toArray] w fun e w' => e = .returned (.bool (narrowT x)) ∧ Fr w.heap.size w w' := by
  induction hrep with
  | mk k name tags fds fts opn root of lims A1 c1 A2 c2 A3 c3 A4 c4 CF CT CO CL h1 h2 h3 h4 hft hk hroot hname hT hTo hF hFd hFt hO hOt hL hLn ih1 ih2 =>
    intro w hb hbs
    have hfa := (Fr.self w).alloc (.cells #[.int .i64 k, .string ⟨name.toArray⟩, .slice A1 tags.length c1, .slice A2 fds.length c2, .bool opn, .int .i64 root, .slice A3 of.length c3, .slice A4 lims.length c4] 28)
    have hbW : Below B w0 (w.alloc (.cells #[.int .i64 k, .string ⟨name.toArray⟩, .slice A1 tags.length c1, .slice A2 fds.length c2, .bool opn, .int .i64 root, .slice A3 of.length c3, .slice A4 lims.length c4] 28)) := hb.trans (hfa.2.mono hbs)
    have m0 : name.length ≤ 9223372036854775807 := hname
    have m1 : tags.length ≤ 9223372036854775807 := h1.2.2
    have m2 : fds.length ≤ 9223372036854775807 := h2.2.2
    have m3 : of.length ≤ 9223372036854775807 := h3.2.2
    have m4 : lims.length ≤ 9223372036854775807 := h4.2.2
    have hns := ba_sz name
    have HF := Lib.hid hF; have HFd := Lib.hid hFd; have HFt := Lib.hid hFt; have HO := Lib.hid hO; have HOt := Lib.hid hOt; have HL := Lib.hid hL; have HLn := Lib.hid hLn
    have Ih1 := Lib.hid ih1; have Ih2 := Lib.hid ih2
    clear hF hFd hFt hO hOt hL hLn ih1 ih2 hT hTo
    by_cases z1 : 60 < name.length
    · have hv : narrowT (.mk k name tags fds fts opn root of lims) = false := by rw [narrowT, decide_eq_false (by omega), Bool.false_and]
      have Hv := Lib.hid hv; clear hv
      go_enter Tryz.func22, Tryz.ntmps22
      go_wp2_with fail
      go_ret
      exact ⟨by rw [Hv.out]; rfl, hfa⟩
    by_cases z2 : 8 < tags.length
    · have hv : narrowT (.mk k name tags fds fts opn root of lims) = false := by rw [narrowT, decide_eq_false (by omega), Bool.false_and]
      have Hv := Lib.hid hv; clear hv
      go_enter Tryz.func22, Tryz.ntmps22
      go_wp2_with fail
      go_ret
      exact ⟨by rw [Hv.out]; rfl, hfa⟩
    by_cases z3 : 40 < fds.length
    · have hv : narrowT (.mk k name tags fds fts opn root of lims) = false := by rw [narrowT, decide_eq_false (by omega), Bool.false_and]
      have Hv := Lib.hid hv; clear hv
      go_enter Tryz.func22, Tryz.ntmps22
      go_wp2_with fail
      go_ret
      exact ⟨by rw [Hv.out]; rfl, hfa⟩
    by_cases z4 : 4 < of.length
    · have hv : narrowT (.mk k name tags fds fts opn root of lims) = false := by rw [narrowT, decide_eq_false (by omega), Bool.false_and]
      have Hv := Lib.hid hv; clear hv
      go_enter Tryz.func22, Tryz.ntmps22
      go_wp2_with fail
      go_ret
      exact ⟨by rw [Hv.out]; rfl, hfa⟩
    by_cases z5 : 40 < lims.length
    · have hv : narrowT (.mk k name tags fds fts opn root of lims) = false := by rw [narrowT, decide_eq_false (by omega), Bool.false_and]
      have Hv := Lib.hid hv; clear hv
      go_enter Tryz.func22, Tryz.ntmps22
      go_wp2_with fail
      go_ret
      exact ⟨by rw [Hv.out]; rfl, hfa⟩
    have hv : narrowT (.mk k name tags fds fts opn root of lims) = (lims.all nodeSlim && ((fts.zip fds).all fieldSlim && of.all narrowT)) := by rw [narrowT, decide_eq_true (by omega), Bool.true_and, narrowF_all _ _ hft, narrowL_all]
    have Hv := Lib.hid hv; clear hv
    have c7 := cell_new w #[.int .i64 k, .string ⟨name.toArray⟩, .slice A1 tags.length c1, .slice A2 fds.length c2, .bool opn, .int .i64 root, .slice A3 of.length c3, .slice A4 lims.length c4] 28 7
    have c3' := cell_new w #[.int .i64 k, .string ⟨name.toArray⟩, .slice A1 tags.length c1, .slice A2 fds.length c2, .bool opn, .int .i64 root, .slice A3 of.length c3, .slice A4 lims.length c4] 28 3
    have c6 := cell_new w #[.int .i64 k, .string ⟨name.toArray⟩, .slice A1 tags.length c1, .slice A2 fds.length c2, .bool opn, .int .i64 root, .slice A3 of.length c3, .slice A4 lims.length c4] 28 6
    go_enter Tryz.func22, Tryz.ntmps22
    go_wp2_with fail
    go_loop [3] (fun i => ∃ m : Nat, m ≤ lims.length ∧ i = .int .i64 m ∧ Hid ((lims.take m).all nodeSlim = true)) (fun i => lims.length - (intOf i).toNat)
    case atStart => exact ⟨0, by omega, by go_num, rfl⟩
    case round =>
      obtain ⟨m, hm, rfl, HR⟩ := hrel
      by_cases hml : m < lims.length
      · obtain ⟨y, hy⟩ : ∃ y, lims[m]? = some y := ⟨_, List.getElem?_eq_getElem hml⟩
        obtain ⟨b, off, rfl, hbB, hcl⟩ := HL.out.resolve_left (by omega)
        obtain ⟨A, ca, hCL, hokA, -, ⟨-, -, -, htl⟩, -⟩ := HLn.out m y hy
        have hcl' := hcl m hml
        rw [hCL] at hcl'
        have k3 := (hbW.cell (p := ⟨b, off + m * 5 + 3, none⟩) hbB).trans (hcl' 3 _ rfl)
        have k4 := (hbW.cell (p := ⟨b, off + m * 5 + 4, none⟩) hbB).trans (hcl' 4 _ rfl)
        have hts := ba_sz y.text
        have htl' : y.text.length ≤ 9223372036854775807 := htl
        have hal' : y.args.length ≤ 9223372036854775807 := hokA.2.2
        have hmn : (0 : Int) ≤ m := by omega
        have hmm : (m : Int) < lims.length := by omega
        by_cases t1 : 500 < y.text.length
        · have hno := Lib.hid (all_false (p := nodeSlim) hy (by unfold nodeSlim; rw [decide_eq_false (by omega), Bool.false_and]))
          clear hy hcl hcl' hCL hokA htl
          go_wp2_with fail
          go_ret
          exact ⟨by rw [Hv.out, hno.out]; rfl, hfa⟩
        · by_cases t2 : 5 < y.args.length
          · have hno := Lib.hid (all_false (p := nodeSlim) hy (by unfold nodeSlim; rw [decide_eq_false (show ¬ y.args.length ≤ 5 by omega), Bool.and_false]))
            clear hy hcl hcl' hCL hokA htl
            go_wp2_with fail
            go_ret
            exact ⟨by rw [Hv.out, hno.out]; rfl, hfa⟩
          · have hst := Lib.hid (all_step HR.out hy (by unfold nodeSlim; rw [decide_eq_true (show y.text.length ≤ 500 by omega), decide_eq_true (show y.args.length ≤ 5 by omega)]; rfl))
            clear hy hcl hcl' hCL hokA htl
            go_wp2_with fail
            go_round
            case rel => exact ⟨m + 1, by omega, by go_num, hst⟩
            case measure => simp [intOf] <;> omega
      · have hall : lims.all nodeSlim = true := by have := HR.out; rwa [List.take_of_length_le (by omega)] at this
        have Hall := Lib.hid hall; clear hall
        go_wp2_with fail
        have hfs := Fr.self (w.alloc (.cells #[.int .i64 k, .string ⟨name.toArray⟩, .slice A1 tags.length c1, .slice A2 fds.length c2, .bool opn, .int .i64 root, .slice A3 of.length c3, .slice A4 lims.length c4] 28))
        go_loopw [4, 5, 6] (fun i _ _ wr => ∃ m : Nat, m ≤ fds.length ∧ i = .int .i64 m ∧ Hid (((fts.zip fds).take m).all fieldSlim = true) ∧ Fr (w.heap.size + 1) (w.alloc (.cells #[.int .i64 k, .string ⟨name.toArray⟩, .slice A1 tags.length c1, .slice A2 fds.length c2, .bool opn, .int .i64 root, .slice A3 of.length c3, .slice A4 lims.length c4] 28)) wr) (fun i _ _ _ => fds.length - (intOf i).toNat)
        case atStart => exact ⟨0, by omega, by go_num, rfl, by simpa using hfs⟩
        case round =>
          obtain ⟨m, hm, rfl, HR2, hfm⟩ := hrel
          have cD := (hfm.cell (p := ⟨w.heap.size, 3, none⟩) (by simp)).trans c3'
          have hfw : Fr w.heap.size w wr := ⟨hfa.1, hfa.2.trans (hfm.2.mono (by omega))⟩
          have hbw : Below B w0 wr := hb.trans (hfw.2.mono hbs)
          by_cases hml : m < fds.length
          · obtain ⟨ft, hft'⟩ : ∃ ft, fts[m]? = some ft := ⟨_, List.getElem?_eq_getElem (by rw [hft]; exact hml)⟩
            obtain ⟨fd, hfd⟩ : ∃ fd, fds[m]? = some fd := ⟨_, List.getElem?_eq_getElem hml⟩
            have hz : (fts.zip fds)[m]? = some (ft, fd) := by rw [List.getElem?_zip_eq_some]; exact ⟨hft', hfd⟩
            obtain ⟨b, off, rfl, hbB, hcl⟩ := HF.out.resolve_left (by omega)
            obtain ⟨D, cd, CV, hCF, hokD, hDr, hDv, hnl, -, -, -⟩ := HFd.out m fd hfd
            obtain ⟨fk, fs, P1, n1, e1, P2, n2, e2, fo, fr, P3, n3, e3, P4, n4, e4, hCT⟩ := (HFt.out m ft hft').shape
            rw [hCT] at hCF
            have hcl' := hcl m hml
            rw [hCF] at hcl'
            have k0 : wr.cell? ⟨b, off + m * 13, none⟩ = some (.string ⟨fd.name.toArray⟩) := (hbw.cell (p := ⟨b, _, none⟩) hbB).trans (hcl' 0 _ rfl)
            have k1 : wr.cell? ⟨b, off + m * 13 + 1, none⟩ = some (.int .i64 fd.num) := (hbw.cell (p := ⟨b, _, none⟩) hbB).trans (hcl' 1 _ rfl)
            have k2 : wr.cell? ⟨b, off + m * 13 + 2, none⟩ = some (.int .i64 fk) := (hbw.cell (p := ⟨b, _, none⟩) hbB).trans (hcl' 2 _ rfl)
            have k3 : wr.cell? ⟨b, off + m * 13 + 3, none⟩ = some (.string fs) := (hbw.cell (p := ⟨b, _, none⟩) hbB).trans (hcl' 3 _ rfl)
            have k4 : wr.cell? ⟨b, off + m * 13 + 4, none⟩ = some (.slice P1 n1 e1) := (hbw.cell (p := ⟨b, _, none⟩) hbB).trans (hcl' 4 _ rfl)
            have k5 : wr.cell? ⟨b, off + m * 13 + 5, none⟩ = some (.slice P2 n2 e2) := (hbw.cell (p := ⟨b, _, none⟩) hbB).trans (hcl' 5 _ rfl)
            have k6 : wr.cell? ⟨b, off + m * 13 + 6, none⟩ = some (.bool fo) := (hbw.cell (p := ⟨b, _, none⟩) hbB).trans (hcl' 6 _ rfl)
            have k7 : wr.cell? ⟨b, off + m * 13 + 7, none⟩ = some (.int .i64 fr) := (hbw.cell (p := ⟨b, _, none⟩) hbB).trans (hcl' 7 _ rfl)
            have k8 : wr.cell? ⟨b, off + m * 13 + 8, none⟩ = some (.slice P3 n3 e3) := (hbw.cell (p := ⟨b, _, none⟩) hbB).trans (hcl' 8 _ rfl)
            have k9 : wr.cell? ⟨b, off + m * 13 + 9, none⟩ = some (.slice P4 n4 e4) := (hbw.cell (p := ⟨b, _, none⟩) hbB).trans (hcl' 9 _ rfl)
            have k10 : wr.cell? ⟨b, off + m * 13 + 10, none⟩ = some (.int .i64 fd.pres) := (hbw.cell (p := ⟨b, _, none⟩) hbB).trans (hcl' 10 _ rfl)
            have k11 : wr.cell? ⟨b, off + m * 13 + 11, none⟩ = some (.slice D fd.dflt.length cd) := (hbw.cell (p := ⟨b, _, none⟩) hbB).trans (hcl' 11 _ rfl)
            have k12 : wr.cell? ⟨b, off + m * 13 + 12, none⟩ = some (.int .i64 fd.grp) := (hbw.cell (p := ⟨b, _, none⟩) hbB).trans (hcl' 12 _ rfl)
            have hfns := ba_sz fd.name
            have hnl' : fd.name.length ≤ 9223372036854775807 := hnl
            have hdl' : fd.dflt.length ≤ 9223372036854775807 := hokD.2.2
            have hmn : (0 : Int) ≤ m := by omega
            have hmm : (m : Int) < fds.length := by omega
            have hih := Ih1.out m ft hft' (wr.alloc (.cells #[.string ⟨fd.name.toArray⟩, .int .i64 fd.num, (.int .i64 fk), (.string fs), (.slice P1 n1 e1), (.slice P2 n2 e2), (.bool fo), (.int .i64 fr), (.slice P3 n3 e3), (.slice P4 n4 e4), .int .i64 fd.pres, .slice D fd.dflt.length cd, .int .i64 fd.grp] 71)) (hbw.alloc (Nat.le_trans hbs hfw.2.size) _) (by simp; exact Nat.le_succ_of_le (Nat.le_trans hbs hfw.2.size))
            rw [hCT] at hih
            have hfF := hfw.alloc (.cells #[.string ⟨fd.name.toArray⟩, .int .i64 fd.num, (.int .i64 fk), (.string fs), (.slice P1 n1 e1), (.slice P2 n2 e2), (.bool fo), (.int .i64 fr), (.slice P3 n3 e3), (.slice P4 n4 e4), .int .i64 fd.pres, .slice D fd.dflt.length cd, .int .i64 fd.grp] 71)
            have hfF1 := hfm.alloc (.cells #[.string ⟨fd.name.toArray⟩, .int .i64 fd.num, (.int .i64 fk), (.string fs), (.slice P1 n1 e1), (.slice P2 n2 e2), (.bool fo), (.int .i64 fr), (.slice P3 n3 e3), (.slice P4 n4 e4), .int .i64 fd.pres, .slice D fd.dflt.length cd, .int .i64 fd.grp] 71)
            have HDr := Lib.hid hDr; have HDv := Lib.hid hDv
            have cF := cell_new wr #[.string ⟨fd.name.toArray⟩, .int .i64 fd.num, (.int .i64 fk), (.string fs), (.slice P1 n1 e1), (.slice P2 n2 e2), (.bool fo), (.int .i64 fr), (.slice P3 n3 e3), (.slice P4 n4 e4), .int .i64 fd.pres, .slice D fd.dflt.length cd, .int .i64 fd.grp] 71 11
            clear hcl hcl' hCF hDr hDv hfd hft' hCT
            by_cases u1 : 60 < fd.name.length
            · have hno := Lib.hid (all_false (p := fieldSlim) hz (by unfold fieldSlim; rw [decide_eq_false (by simp only; omega), Bool.false_and]))
              clear hz hih
              go_wp2_with fail
              go_ret
              exact ⟨by rw [Hv.out, Hall.out, hno.out]; rfl, hfF⟩
            · by_cases u2 : 3 < fd.dflt.length
              · have hno := Lib.hid (all_false (p := fieldSlim) hz (by unfold fieldSlim; rw [decide_eq_false (by simp only; omega), Bool.false_and]))
                clear hz hih
                go_wp2_with fail
                go_ret
                exact ⟨by rw [Hv.out, Hall.out, hno.out]; rfl, hfF⟩
              · have hfsl : fieldSlim (ft, fd) = (narrowT ft && fd.dflt.all fewV) := by unfold fieldSlim; rw [decide_eq_true (by simp only; omega), Bool.true_and]
                rcases hnt : narrowT ft with _ | _
                · rw [hnt] at hih
                  have Hih := Lib.hid hih
                  have hno := Lib.hid (all_false (p := fieldSlim) hz (by rw [hfsl, hnt]; rfl))
                  clear hz hih hnt hfsl
                  go_wp2_with (go_at_call 22; refine (Hih.out).mono ?_; rintro e w2 ⟨rfl, hf2⟩)
                  go_ret
                  exact ⟨by rw [Hv.out, Hall.out, hno.out]; rfl, hfF.trans hf2⟩
                · rw [hnt] at hih
                  rw [hnt, Bool.true_and] at hfsl
                  have Hih := Lib.hid hih
                  have Hz := Lib.hid hz
                  have Hfs := Lib.hid hfsl
                  clear hz hih hnt hfsl
                  obtain ⟨wo, rfl⟩ : ∃ x, x = wr := ⟨_, rfl⟩
                  go_wp2_with (go_at_call 22; refine (Hih.out).mono ?_; rintro e w2 ⟨rfl, hf2⟩)
                  have cF2 := (hf2.cell (p := ⟨wo.heap.size, 11, none⟩) (by simp)).trans cF
                  have hz2 : wo.heap.size < w2.heap.size := cell_block cF2
                  have hF2 := hfF.trans hf2
                  have hF21 := hfF1.trans hf2
                  have hb2 : Below B w0 w2 := hb.trans (hF2.2.mono hbs)
                  have hb2s : B ≤ w2.heap.size := Nat.le_trans hbs hF2.2.size
                  clear hf2 cF hfF hfF1 k0 k1 k2 k3 k4 k5 k6 k7 k8 k9 k10 k11 k12
                  go_loopw [6] (fun i wr => ∃ n : Nat, n ≤ fd.dflt.length ∧ i = .int .i64 n ∧ Hid ((fd.dflt.take n).all fewV = true) ∧ Fr w2.heap.size w2 wr) (fun i _ => fd.dflt.length - (intOf i).toNat)
                  case atStart => exact ⟨0, by omega, by go_num, rfl, Fr.self w2⟩
                  case round =>
                    obtain ⟨n, hn, rfl, HR3, hfn⟩ := hrel
                    have cD2 := (hfn.cell (p := ⟨wo.heap.size, 11, none⟩) hz2).trans cF2
                    by_cases hnl2 : n < fd.dflt.length
                    · obtain ⟨y, hy⟩ : ∃ y, fd.dflt[n]? = some y := ⟨_, List.getElem?_eq_getElem hnl2⟩
                      obtain ⟨b2, off2, rfl, hbB2, hcl2⟩ := HDr.out.resolve_left (by omega)
                      obtain ⟨v0, v1, v2, v3, v4, v5, hC⟩ := six_of (HDv.out n y hy).six
                      have hbw3 : Below B w0 wr := hb2.trans (hfn.2.mono hb2s)
                      have hcl2' := hcl2 n hnl2
                      rw [hC] at hcl2'
                      have v0' : wr.cell? ⟨b2, off2 + n * 6, none⟩ = some v0 := (hbw3.cell (p := ⟨b2, _, none⟩) hbB2).trans (hcl2' 0 _ rfl)
                      have v1' : wr.cell? ⟨b2, off2 + n * 6 + 1, none⟩ = some v1 := (hbw3.cell (p := ⟨b2, _, none⟩) hbB2).trans (hcl2' 1 _ rfl)
                      have v2' : wr.cell? ⟨b2, off2 + n * 6 + 2, none⟩ = some v2 := (hbw3.cell (p := ⟨b2, _, none⟩) hbB2).trans (hcl2' 2 _ rfl)
                      have v3' : wr.cell? ⟨b2, off2 + n * 6 + 3, none⟩ = some v3 := (hbw3.cell (p := ⟨b2, _, none⟩) hbB2).trans (hcl2' 3 _ rfl)
                      have v4' : wr.cell? ⟨b2, off2 + n * 6 + 4, none⟩ = some v4 := (hbw3.cell (p := ⟨b2, _, none⟩) hbB2).trans (hcl2' 4 _ rfl)
                      have v5' : wr.cell? ⟨b2, off2 + n * 6 + 5, none⟩ = some v5 := (hbw3.cell (p := ⟨b2, _, none⟩) hbB2).trans (hcl2' 5 _ rfl)
                      have hrv : Rep wr.heap.size wr y [v0, v1, v2, v3, v4, v5] := by
                        have := HDv.out n y hy
                        rw [hC] at this
                        exact Rep.mono (Nat.le_trans hb2s hfn.2.size) (Rep.keep hbw3 this)
                      have hfe := few_any y wr _ hrv
                      have hnn : (0 : Int) ≤ n := by omega
                      have hnm : (n : Int) < fd.dflt.length := by omega
                      clear hcl2 hcl2' hC hrv hbw3
                      rcases hsy : fewV y with _ | _
                      · rw [hsy] at hfe
                        have Hfe := Lib.hid hfe
                        have hno := Lib.hid (all_false (p := fieldSlim) Hz.out (by rw [Hfs.out]; exact all_false hy hsy))
                        clear hfe hy hsy
                        go_wp2_with (go_at_call 40; refine (Hfe.out).mono ?_; rintro e w3 ⟨rfl, hf3⟩)
                        go_ret
                        exact ⟨by rw [Hv.out, Hall.out, hno.out]; rfl, (hF2.trans hfn).trans hf3⟩
                      · rw [hsy] at hfe
                        have Hfe := Lib.hid hfe
                        have hst := Lib.hid (all_step HR3.out hy hsy)
                        clear hfe hy hsy
                        go_wp2_with (go_at_call 40; refine (Hfe.out).mono ?_; rintro e w3 ⟨rfl, hf3⟩)
                        go_roundw
                        case rel => exact ⟨n + 1, by omega, by go_num, hst, hfn.trans hf3⟩
                        case measure => simp [intOf] <;> omega
                    · have hall3 : fd.dflt.all fewV = true := by have := HR3.out; rwa [List.take_of_length_le (by omega)] at this
                      have hst := Lib.hid (all_step HR2.out Hz.out (by rw [Hfs.out]; exact hall3))
                      clear hall3
                      go_wp2_with fail
                      go_roundw
                      case rel => exact ⟨m + 1, by omega, by go_num, hst, hF21.trans hfn⟩
                      case measure => simp [intOf] <;> omega
          · have hall2 : (fts.zip fds).all fieldSlim = true := by have := HR2.out; rwa [List.take_of_length_le (by rw [List.length_zip]; omega)] at this
            have Hall2 := Lib.hid hall2; clear hall2
            have c6' := (hfm.cell (p := ⟨w.heap.size, 6, none⟩) (by simp)).trans c6
            obtain ⟨wo, rfl⟩ : ∃ x, x = wr := ⟨_, rfl⟩
            have hwz : w.heap.size < wo.heap.size := cell_block c6'
            go_wp2_with fail
            go_loopw [7] (fun i wr => ∃ m : Nat, m ≤ of.length ∧ i = .int .i64 m ∧ Hid ((of.take m).all narrowT = true) ∧ Fr wo.heap.size wo wr) (fun i _ => of.length - (intOf i).toNat)
            case atStart => exact ⟨0, by omega, by go_num, rfl, Fr.self wo⟩
            case round =>
              obtain ⟨m, hm, rfl, HR4, hfo⟩ := hrel
              have cD' := (hfo.cell (p := ⟨w.heap.size, 6, none⟩) hwz).trans c6'
              have hfw2 := hfw.trans hfo
              have hbw : Below B w0 wr := hb.trans (hfw2.2.mono hbs)
              by_cases hml : m < of.length
              · obtain ⟨ft, hft'⟩ : ∃ ft, of[m]? = some ft := ⟨_, List.getElem?_eq_getElem hml⟩
                obtain ⟨b, off, rfl, hbB, hcl⟩ := HO.out.resolve_left (by omega)
                obtain ⟨d0, d1, d2, d3, d4, d5, d6, d7, hCT⟩ : ∃ d0 d1 d2 d3 d4 d5 d6 d7, CO m = [d0, d1, d2, d3, d4, d5, d6, d7] := by
                  have := (HOt.out m ft hft').eight
                  match CO m, this with
                  | [d0, d1, d2, d3, d4, d5, d6, d7], _ => exact ⟨d0, d1, d2, d3, d4, d5, d6, d7, rfl⟩
                have hcl' := hcl m hml
                rw [hCT] at hcl'
                have k0 : wr.cell? ⟨b, off + m * 8, none⟩ = some d0 := (hbw.cell (p := ⟨b, _, none⟩) hbB).trans (hcl' 0 d0 rfl)
                have k1 : wr.cell? ⟨b, off + m * 8 + 1, none⟩ = some d1 := (hbw.cell (p := ⟨b, _, none⟩) hbB).trans (hcl' 1 d1 rfl)
                have k2 : wr.cell? ⟨b, off + m * 8 + 2, none⟩ = some d2 := (hbw.cell (p := ⟨b, _, none⟩) hbB).trans (hcl' 2 d2 rfl)
                have k3 : wr.cell? ⟨b, off + m * 8 + 3, none⟩ = some d3 := (hbw.cell (p := ⟨b, _, none⟩) hbB).trans (hcl' 3 d3 rfl)
                have k4 : wr.cell? ⟨b, off + m * 8 + 4, none⟩ = some d4 := (hbw.cell (p := ⟨b, _, none⟩) hbB).trans (hcl' 4 d4 rfl)
                have k5 : wr.cell? ⟨b, off + m * 8 + 5, none⟩ = some d5 := (hbw.cell (p := ⟨b, _, none⟩) hbB).trans (hcl' 5 d5 rfl)
                have k6 : wr.cell? ⟨b, off + m * 8 + 6, none⟩ = some d6 := (hbw.cell (p := ⟨b, _, none⟩) hbB).trans (hcl' 6 d6 rfl)
                have k7 : wr.cell? ⟨b, off + m * 8 + 7, none⟩ = some d7 := (hbw.cell (p := ⟨b, _, none⟩) hbB).trans (hcl' 7 d7 rfl)
                have hih := Ih2.out m ft hft' wr hbw (Nat.le_trans hbs hfw2.2.size)
                rw [hCT] at hih
                have hmn : (0 : Int) ≤ m := by omega
                have hmm : (m : Int) < of.length := by omega
                clear hcl hcl' hCT
                rcases hnt : narrowT ft with _ | _
                · rw [hnt] at hih
                  have Hih := Lib.hid hih
                  have hno := Lib.hid (all_false hft' hnt)
                  clear hih hnt hft'
                  go_wp2_with (go_at_call 22; refine (Hih.out).mono ?_; rintro e w2 ⟨rfl, hf2⟩)
                  go_ret
                  exact ⟨by rw [Hv.out, Hall.out, Hall2.out, hno.out]; rfl, hfw2.trans hf2⟩
                · rw [hnt] at hih
                  have Hih := Lib.hid hih
                  have hst := Lib.hid (all_step HR4.out hft' hnt)
                  clear hih hnt hft'
                  go_wp2_with (go_at_call 22; refine (Hih.out).mono ?_; rintro e w2 ⟨rfl, hf2⟩)
                  go_roundw
                  case rel => exact ⟨m + 1, by omega, by go_num, hst, hfo.trans hf2⟩
                  case measure => simp [intOf] <;> omega
              · have hall4 : of.all narrowT = true := by have := HR4.out; rwa [List.take_of_length_le (by omega)] at this
                have Hall4 := Lib.hid hall4; clear hall4
                go_wp2_with fail
                go_ret
                exact ⟨by rw [Hv.out, Hall.out, Hall2.out, Hall4.out]; rfl, hfw2⟩
end Go.Proofs.YtgdedcdjfljcnaaGreatDoor
