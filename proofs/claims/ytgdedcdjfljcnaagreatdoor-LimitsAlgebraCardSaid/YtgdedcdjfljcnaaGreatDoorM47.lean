/- The law of LimitsAlgebra: its premises (UNDER WAY: a sorry stands where the premises are passed; all before it builds, 22 s). -/
import Derived.Test.YtgdedcdjfljcnaaGreatDoorM43
import Derived.Test.YtgdedcdjfljcnaaGreatDoorM18
import Derived.Test.YtgdedcdjfljcnaaGreatDoorM36
import Derived.Test.YtgdedcdjfljcnaaGreatDoorM46
import Derived.BigGuard
import Derived.Deep.CutBlock
namespace Go.Proofs.YtgdedcdjfljcnaaGreatDoor
open Go.RowKit

structure AlgW (w : World) (cs1 cs2 : List Value) (wx : World) : Prop where
  one : ∀ k, wx.cell? ⟨w.heap.size, k, none⟩ = cs1[k]?
  two : ∀ k, wx.cell? ⟨w.heap.size + 1, k, none⟩ = cs2[k]?
  fr : Fr w.heap.size w wx
  lt : w.heap.size + 1 < wx.heap.size
theorem AlgW.keep {w : World} {cs1 cs2 : List Value} {wx w' : World} (h : AlgW w cs1 cs2 wx) (hf : Fr wx.heap.size wx w') : AlgW w cs1 cs2 w' := by
  have hz := h.lt
  exact ⟨fun k => (hf.cell (p := ⟨w.heap.size, k, none⟩) (by show w.heap.size < _; omega)).trans (h.one k), fun k => (hf.cell (p := ⟨w.heap.size + 1, k, none⟩) (by show w.heap.size + 1 < _; omega)).trans (h.two k), h.fr.trans hf, Nat.lt_of_lt_of_le hz hf.2.size⟩
/-- What the premises leave. -/
def AlgP (x y : TyT) (n : Int) : Prop := (AlgE x ∧ AlgM x) ∧ (AlgE y ∧ AlgM y) ∧ -1152921504606846976 ≤ n ∧ n ≤ 1152921504606846976
set_option maxRecDepth 100000 in
set_option maxHeartbeats 4000000 in
theorem limitsAlgebra_any (x y : TyT) (cs1 cs2 : List Value) (n : Int) (w : World) (h1 : RepTy w.heap.size w x cs1) (h2 : RepTy w.heap.size w y cs2) (hp : PartTy w) (hi : PartInt w) (hv : PartVal w) :
    Calls Tryz.prog 3 #[.agg cs1.toArray, .agg cs2.toArray, .int .i64 n] w fun e w' => e = .returned (.bool true) ∧ Fr w.heap.size w w' := by
  have Hr1 := Lib.hid h1; have Hr2 := Lib.hid h2
  obtain ⟨fk, fs, P1, n1, e1, P2, n2, e2, fo, fr, P3, n3, e3, P4, n4, e4, hcs1⟩ := h1.shape
  obtain ⟨gk, gs, Q1, m1, d1, Q2, m2, d2, go, gr, Q3, m3, d3, Q4, m4, d4, hcs2⟩ := h2.shape
  subst hcs1 hcs2
  have hf := ((Fr.self w).alloc (.cells #[.int .i64 fk, .string fs, .slice P1 n1 e1, .slice P2 n2 e2, .bool fo, .int .i64 fr, .slice P3 n3 e3, .slice P4 n4 e4] 28)).alloc (.cells #[.int .i64 gk, .string gs, .slice Q1 m1 d1, .slice Q2 m2 d2, .bool go, .int .i64 gr, .slice Q3 m3 d3, .slice Q4 m4 d4] 28)
  have hW : AlgW w [.int .i64 fk, .string fs, .slice P1 n1 e1, .slice P2 n2 e2, .bool fo, .int .i64 fr, .slice P3 n3 e3, .slice P4 n4 e4] [.int .i64 gk, .string gs, .slice Q1 m1 d1, .slice Q2 m2 d2, .bool go, .int .i64 gr, .slice Q3 m3 d3, .slice Q4 m4 d4] ((w.alloc (.cells #[.int .i64 fk, .string fs, .slice P1 n1 e1, .slice P2 n2 e2, .bool fo, .int .i64 fr, .slice P3 n3 e3, .slice P4 n4 e4] 28)).alloc (.cells #[.int .i64 gk, .string gs, .slice Q1 m1 d1, .slice Q2 m2 d2, .bool go, .int .i64 gr, .slice Q3 m3 d3, .slice Q4 m4 d4] 28)) :=
    ⟨fun k => (World.cell?_alloc_lt _ _ _ (by simp)).trans ((cell_new w _ _ k).trans (by simp)), fun k => by
      have := cell_new (w.alloc (.cells #[.int .i64 fk, .string fs, .slice P1 n1 e1, .slice P2 n2 e2, .bool fo, .int .i64 fr, .slice P3 n3 e3, .slice P4 n4 e4] 28)) #[.int .i64 gk, .string gs, .slice Q1 m1 d1, .slice Q2 m2 d2, .bool go, .int .i64 gr, .slice Q3 m3 d3, .slice Q4 m4 d4] 28 k
      rw [World.size_alloc] at this
      rw [this]; simp, hf, by simp⟩
  have HW := Lib.hid hW
  have Hpt := Lib.hid (fun (W : World) (h : Fr w.heap.size w W) => hp.keep h.2); have Hpi := Lib.hid (fun (W : World) (h : Fr w.heap.size w W) => hi.keep h.2); have Hpv := Lib.hid (fun (W : World) (h : Fr w.heap.size w W) => hv.keep h.2)
  have Haw := Lib.hid (fun (W : World) (h : Fr w.heap.size w W) => awake_any W (hp.keep h.2) (hi.keep h.2) (hv.keep h.2))
  have Ht1 := Lib.hid (fun (W : World) (h : Fr w.heap.size w W) => tiny_any x W _ (RepTy.mono h.2.size (RepTy.keep h.2 Hr1.out)))
  have Ht2 := Lib.hid (fun (W : World) (h : Fr w.heap.size w W) => tiny_any y W _ (RepTy.mono h.2.size (RepTy.keep h.2 Hr2.out)))
  clear hf hW hp hi hv h1 h2
  go_enter Tryz.func3, Tryz.ntmps3
  go_wp2_with fail
  refine (Haw.out _ HW.out.fr).mono ?_
  rintro e w1 ⟨rfl, hf1⟩
  have HW1 := Lib.hid (HW.out.keep hf1)
  clear HW hf1
  go_upto_region 3 with fail
  go_cut [81] from 25 to 80 (fun s81 wx => Hid (AlgW w [.int .i64 fk, .string fs, .slice P1 n1 e1, .slice P2 n2 e2, .bool fo, .int .i64 fr, .slice P3 n3 e3, .slice P4 n4 e4] [.int .i64 gk, .string gs, .slice Q1 m1 d1, .slice Q2 m2 d2, .bool go, .int .i64 gr, .slice Q3 m3 d3, .slice Q4 m4 d4] wx) ∧ ∃ bb : Bool, s81 = .bool bb ∧ Hid (bb = false → AlgP x y n))
  case first =>
    try dsimp only [List.append, List.append_eq, HAppend.hAppend, Append.append]
    have k0 := HW1.out.one 0; have k1 := HW1.out.one 1; have k2 := HW1.out.one 2; have k3 := HW1.out.one 3; have k4 := HW1.out.one 4; have k5 := HW1.out.one 5; have k6 := HW1.out.one 6; have k7 := HW1.out.one 7
    go_wp2_with fail
    refine (Ht1.out _ HW1.out.fr).mono ?_
    rintro e w2 ⟨rfl, hf2⟩
    clear k0 k1 k2 k3 k4 k5 k6 k7
    have HW2 := Lib.hid (HW1.out.keep hf2)
    clear HW1 hf2
    obtain ⟨tx, htx⟩ : ∃ t, tinyB x = t := ⟨_, rfl⟩
    rw [htx]
    have Htx := Lib.hid htx
    clear htx
    cases tx with
    | false =>
      go_wp2_with fail
      go_meet
      exact ⟨HW2, true, rfl, Lib.hid fun h => by cases h⟩
    | true =>
      have k0 := HW2.out.two 0; have k1 := HW2.out.two 1; have k2 := HW2.out.two 2; have k3 := HW2.out.two 3; have k4 := HW2.out.two 4; have k5 := HW2.out.two 5; have k6 := HW2.out.two 6; have k7 := HW2.out.two 7
      go_wp2_with fail
      refine (Ht2.out _ HW2.out.fr).mono ?_
      rintro e w3 ⟨rfl, hf3⟩
      clear k0 k1 k2 k3 k4 k5 k6 k7
      have HW3 := Lib.hid (HW2.out.keep hf3)
      clear HW2 hf3
      obtain ⟨ty, hty⟩ : ∃ t, tinyB y = t := ⟨_, rfl⟩
      rw [hty]
      have Hty := Lib.hid hty
      clear hty
      cases ty with
      | false =>
        go_wp2_with fail
        go_meet
        exact ⟨HW3, true, rfl, Lib.hid fun h => by cases h⟩
      | true =>
        have k0 := HW3.out.one 0; have k7 := HW3.out.one 7; have l0 := HW3.out.two 0; have l7 := HW3.out.two 7
        obtain ⟨b1, hb1⟩ : ∃ t, (fk != 2) = t := ⟨_, rfl⟩
        obtain ⟨b2, hb2⟩ : ∃ t, (gk != 2) = t := ⟨_, rfl⟩
        have Hb1 := Lib.hid hb1; have Hb2 := Lib.hid hb2
        obtain ⟨b3, hb3⟩ : ∃ t, decide ((1 : Int) ≤ n4 ∧ (n4 : Int) ≤ 9) = t := ⟨_, rfl⟩
        obtain ⟨b4, hb4⟩ : ∃ t, decide ((1 : Int) ≤ m4 ∧ (m4 : Int) ≤ 9) = t := ⟨_, rfl⟩
        obtain ⟨b5, hb5⟩ : ∃ t, decide (-1152921504606846976 ≤ n ∧ n ≤ 1152921504606846976) = t := ⟨_, rfl⟩
        have Hb3 := Lib.hid hb3; have Hb4 := Lib.hid hb4; have Hb5 := Lib.hid hb5
        clear hb3 hb4 hb5
        cases b1 with
        | true =>
          go_wp2_with fail
          go_meet
          exact ⟨HW3, true, rfl, Lib.hid fun h => by cases h⟩
        | false =>
          cases b2 with
          | true =>
            go_wp2_with fail
            go_meet
            exact ⟨HW3, true, rfl, Lib.hid fun h => by cases h⟩
          | false =>
            go_wp2_with fail
            refine (within_eq Hb3.out _).mono ?_
            rintro e w' ⟨rfl, rfl⟩
            cases b3 with
            | false =>
              go_wp2_with fail
              go_meet
              exact ⟨HW3, true, rfl, Lib.hid fun h => by cases h⟩
            | true =>
              go_wp2_with fail
              refine (within_eq Hb4.out _).mono ?_
              rintro e w' ⟨rfl, rfl⟩
              cases b4 with
              | false =>
                go_wp2_with fail
                go_meet
                exact ⟨HW3, true, rfl, Lib.hid fun h => by cases h⟩
              | true =>
                go_wp2_with fail
                refine (within_eq Hb5.out _).mono ?_
                rintro e w' ⟨rfl, rfl⟩
                cases b5 with
                | false =>
                  go_wp2_with fail
                  go_meet
                  exact ⟨HW3, true, rfl, Lib.hid fun h => by cases h⟩
                | true =>
                  have hn4 := of_decide_eq_true Hb3.out
                  have hm4 := of_decide_eq_true Hb4.out
                  have hk2 : fk = 2 := by simpa using Hb1.out
                  have hg2 : gk = 2 := by simpa using Hb2.out
                  have He1 := Lib.hid (fun (W : World) (h : Fr w.heap.size w W) => err_at (RepTy.mono h.2.size (RepTy.keep h.2 Hr1.out)) hk2 (by omega) Htx.out)
                  have He2 := Lib.hid (fun (W : World) (h : Fr w.heap.size w W) => err_at (RepTy.mono h.2.size (RepTy.keep h.2 Hr2.out)) hg2 (by omega) Hty.out)
                  have Hm1 := Lib.hid (fun (W : World) (h : Fr w.heap.size w W) => mark_at (RepTy.mono h.2.size (RepTy.keep h.2 Hr1.out)) (by omega))
                  have Hm2 := Lib.hid (fun (W : World) (h : Fr w.heap.size w W) => mark_at (RepTy.mono h.2.size (RepTy.keep h.2 Hr2.out)) (by omega))
                  clear hn4 hm4 hk2 hg2 k0 k7 l0 l7
                  have k0 := HW3.out.one 0; have k1 := HW3.out.one 1; have k2 := HW3.out.one 2; have k3 := HW3.out.one 3; have k4 := HW3.out.one 4; have k5 := HW3.out.one 5; have k6 := HW3.out.one 6; have k7 := HW3.out.one 7
                  go_wp2_with fail
                  refine (He1.out _ HW3.out.fr).mono ?_
                  rintro e w4 ⟨⟨c1, rfl, hc1⟩, hfw4⟩
                  clear k0 k1 k2 k3 k4 k5 k6 k7
                  have HW4 := Lib.hid (HW3.out.keep hfw4)
                  have Hc1 := Lib.hid hc1
                  clear HW3 hfw4 hc1
                  by_cases zc1 : c1 = 0
                  · subst zc1
                    replace Hc1 := Lib.hid (Hc1.out rfl)
                    have k0 := HW4.out.two 0; have k1 := HW4.out.two 1; have k2 := HW4.out.two 2; have k3 := HW4.out.two 3; have k4 := HW4.out.two 4; have k5 := HW4.out.two 5; have k6 := HW4.out.two 6; have k7 := HW4.out.two 7
                    go_wp2_with fail
                    refine (He2.out _ HW4.out.fr).mono ?_
                    rintro e w5 ⟨⟨c2, rfl, hc2⟩, hfw5⟩
                    clear k0 k1 k2 k3 k4 k5 k6 k7
                    have HW5 := Lib.hid (HW4.out.keep hfw5)
                    have Hc2 := Lib.hid hc2
                    clear HW4 hfw5 hc2
                    by_cases zc2 : c2 = 0
                    · subst zc2
                      replace Hc2 := Lib.hid (Hc2.out rfl)
                      have k7 := HW5.out.one 7; have l7 := HW5.out.two 7
                      go_wp2_with fail
                      refine (Hm1.out _ HW5.out.fr).mono ?_
                      rintro e w' ⟨⟨bm, rfl, Hbm⟩, rfl⟩
                      cases bm with
                      | true =>
                        go_wp2_with fail
                        go_meet
                        exact ⟨HW5, true, rfl, Lib.hid fun h => by cases h⟩
                      | false =>
                        go_wp2_with fail
                        refine (Hm2.out _ HW5.out.fr).mono ?_
                        rintro e w' ⟨⟨bn, rfl, Hbn⟩, rfl⟩
                        go_wp2_with fail
                        go_meet
                        exact ⟨HW5, bn, rfl, Lib.hid fun h => ⟨⟨Hc1.out, Hbm.out (by first | rfl | trivial)⟩, ⟨Hc2.out, Hbn.out (by first | exact h | simpa using h)⟩, of_decide_eq_true Hb5.out⟩⟩
                    · have zbc2 : (c2 != 0) = true := by simpa using zc2
                      clear zc2
                      go_wp2_with fail
                      go_meet
                      exact ⟨HW5, true, rfl, Lib.hid fun h => by cases h⟩
                  · have zbc1 : (c1 != 0) = true := by simpa using zc1
                    clear zc1
                    go_wp2_with fail
                    go_meet
                    exact ⟨HW4, true, rfl, Lib.hid fun h => by cases h⟩
  case rest =>
    obtain ⟨HW6, bb, rfl, HP⟩ := hcut
    cases bb with
    | true =>
      go_wp2_with fail
      go_ret
      exact ⟨rfl, HW6.out.fr⟩
    | false =>
      have hP := HP.out rfl
      clear HP Haw Ht1 Ht2 HW1
      obtain ⟨⟨hE1, hM1⟩, ⟨hE2, hM2⟩, hn1, hn2⟩ := hP
      have hr1 := RepTy.mono HW6.out.fr.2.size (RepTy.keep HW6.out.fr.2 Hr1.out)
      have hr2 := RepTy.mono HW6.out.fr.2.size (RepTy.keep HW6.out.fr.2 Hr2.out)
      obtain ⟨xk, xn, xt, xf, xff, xo, xr, xof, xl⟩ := x
      obtain ⟨yk, yn, yt, yf, yff, yo, yr, yof, yl⟩ := y
      obtain ⟨⟨⟨rfl, hx1, hx9⟩, hxa⟩, hGx⟩ := hE1
      obtain ⟨⟨⟨rfl, hy1, hy9⟩, hya⟩, hGy⟩ := hE2
      obtain ⟨Tx, A1, a1, A2, a2, A3, a3, ab, ao, a4, ex, gx, nx, tx3, ox⟩ := alg_good hr1 hGx (fun e => by rw [e] at hx1; simp at hx1) hx9 hM1
      obtain ⟨Ty, B1, b1, B2, b2, B3, b3, bb', bo, b4, ey, gy, ny, ty3, oy⟩ := alg_good hr2 hGy (fun e => by rw [e] at hy1; simp at hy1) hy9 hM2
      simp only [List.cons.injEq, Value.int.injEq, Value.string.injEq, Value.slice.injEq, Value.bool.injEq, true_and, and_true] at ex ey
      obtain ⟨rfl, rfl, ⟨rfl, rfl, rfl⟩, ⟨rfl, rfl, rfl⟩, rfl, rfl, ⟨rfl, rfl, rfl⟩, rfl, rfl, rfl⟩ := ex
      obtain ⟨rfl, rfl, ⟨rfl, rfl, rfl⟩, ⟨rfl, rfl, rfl⟩, rfl, rfl, ⟨rfl, rfl, rfl⟩, rfl, rfl, rfl⟩ := ey
      have Gx := Lib.hid gx; have Gy := Lib.hid gy; have Ox := Lib.hid ox; have Oy := Lib.hid oy
      clear gx gy ox oy hr1 hr2 hGx hGy hM1 hM2 Hr1 Hr2
      have hxl : 1 ≤ xl.length ∧ xl.length ≤ 9 := ⟨hx1, hx9⟩
      have hyl : 1 ≤ yl.length ∧ yl.length ≤ 9 := ⟨hy1, hy9⟩
      have hxn : xl ≠ [] := fun e => by rw [e] at hxl; simp at hxl
      have hyn : yl ≠ [] := fun e => by rw [e] at hyl; simp at hyl
      have Hox := Lib.hid (fun (W : World) (h : Fr wc.heap.size wc W) => ownType_flat (B := wc.heap.size) xt xl P1 P2 P3 (some ⟨ab, ao, none⟩) e1 e2 e3 e4 W (Gx.out.tag.keep h.2) nx (Gx.out.lim.keep h.2) h.2.size tx3 (by omega) hxa Ox.out hxn)
      have Hoy := Lib.hid (fun (W : World) (h : Fr wc.heap.size wc W) => ownType_flat (B := wc.heap.size) yt yl Q1 Q2 Q3 (some ⟨bb', bo, none⟩) d1 d2 d3 d4 W (Gy.out.tag.keep h.2) ny (Gy.out.lim.keep h.2) h.2.size ty3 (by omega) hya Oy.out hyn)
      have Hxa := Lib.hid hxa; have Hya := Lib.hid hya; have Hxn := Lib.hid hxn; have Hyn := Lib.hid hyn; have Nx := Lib.hid nx; have Ny := Lib.hid ny; have Tx3 := Lib.hid tx3
      have Hxl := Lib.hid hxl; have Hyl := Lib.hid hyl
      clear hxa hya hxn hyn hx1 hx9 hy1 hy9 nx ny tx3 ty3
      have k0 := HW6.out.one 0; have k1 := HW6.out.one 1; have k2 := HW6.out.one 2; have k3 := HW6.out.one 3; have k4 := HW6.out.one 4; have k5 := HW6.out.one 5; have k6 := HW6.out.one 6; have k7 := HW6.out.one 7
      go_wp2_with fail
      refine (Hox.out _ (Fr.self _)).mono ?_
      rintro e w6 ⟨⟨TA, tc, sb, so, sc, rfl, hta, htag, hlim⟩, hf6⟩
      clear k0 k1 k2 k3 k4 k5 k6 k7
      have HW7 := Lib.hid (HW6.out.keep hf6)
      have Hsx := Lib.hid (gSpansOf (B := w6.heap.size) tc sc w6 ⟨htag, Gx.out.tok, hlim, Gx.out.eq, Gx.out.good, Gx.out.size⟩ (Nat.le_refl _) (Hpt.out _ HW7.out.fr))
      clear hta htag hlim
      go_wp2_with fail
      refine (Hsx.out).mono ?_
      rintro e w7 ⟨SA, sn, rfl, hsn, hsp, hf7⟩
      have Hspx := Lib.hid hsp; have Hsnx := Lib.hid hsn
      clear hsp hsn Hsx
      have HW8 := Lib.hid (HW7.out.keep hf7)
      have F8 := Lib.hid (hf6.trans hf7)
      clear HW7 hf6 hf7
      have k0 := HW8.out.two 0; have k1 := HW8.out.two 1; have k2 := HW8.out.two 2; have k3 := HW8.out.two 3; have k4 := HW8.out.two 4; have k5 := HW8.out.two 5; have k6 := HW8.out.two 6; have k7 := HW8.out.two 7
      go_wp2_with fail
      refine (Hoy.out _ F8.out).mono ?_
      rintro e w8 ⟨⟨TB, td, tb, tof, te, rfl, hta, htag, hlim⟩, hf8⟩
      clear k0 k1 k2 k3 k4 k5 k6 k7
      have HW9 := Lib.hid (HW8.out.keep hf8)
      have Hsy := Lib.hid (gSpansOf (B := w8.heap.size) td te w8 ⟨htag, Gy.out.tok, hlim, Gy.out.eq, Gy.out.good, Gy.out.size⟩ (Nat.le_refl _) (Hpt.out _ HW9.out.fr))
      clear hta htag hlim
      go_wp2_with fail
      refine (Hsy.out).mono ?_
      rintro e w9 ⟨SB, sm, rfl, hsm, hsp, hf9⟩
      have Hspy := Lib.hid hsp; have Hsmy := Lib.hid hsm
      have Hspz := Lib.hid ((Hspx.out.keep (hf8.trans hf9).2).mono (hf8.trans hf9).2.size)
      have HW10 := Lib.hid (HW9.out.keep hf9)
      have F10 := Lib.hid ((F8.out.trans hf8).trans hf9)
      clear hsp hsm Hsy Hspx HW8 HW9 F8 hf8 hf9
      obtain ⟨p, hp⟩ : ∃ p, inB Tx.nums n = p := ⟨_, rfl⟩
      obtain ⟨q, hq⟩ : ∃ q, inB Ty.nums n = q := ⟨_, rfl⟩
      have Hp := Lib.hid hp; have Hq := Lib.hid hq
      clear hp hq
      have k0 := HW10.out.one 0; have k1 := HW10.out.one 1; have k2 := HW10.out.one 2; have k3 := HW10.out.one 3; have k4 := HW10.out.one 4; have k5 := HW10.out.one 5; have k6 := HW10.out.one 6; have k7 := HW10.out.one 7
      go_wp2_with fail
      refine (Hox.out _ F10.out).mono ?_
      rintro e w10 ⟨⟨TC, tc, tb, tof, te, rfl, hta, htag, hlim⟩, hf10⟩
      clear k0 k1 k2 k3 k4 k5 k6 k7
      have HW11 := Lib.hid (HW10.out.keep hf10)
      have F11 := Lib.hid (F10.out.trans hf10)
      have Hgx := Lib.hid (fun (W : World) (h : Fr w10.heap.size w10 W) hw => gPermits (B := w10.heap.size) tc te n W (GT.keep ⟨htag, Gx.out.tok, hlim, Gx.out.eq, Gx.out.good, Gx.out.size⟩ h.2) h.2.size (Hpt.out _ hw) (Hpi.out _ hw) (Hpv.out _ hw) ⟨hn1, hn2⟩)
      rw [Hp.out] at Hgx
      clear hta htag hlim
      go_wp2_with fail
      refine (Int_any n _).mono ?_
      rintro e w11 ⟨rfl, hf11⟩
      have HW12 := Lib.hid (HW11.out.keep hf11)
      go_wp2_with fail
      refine (Hgx.out _ hf11 HW12.out.fr).mono ?_
      rintro e w12 ⟨rfl, hf12⟩
      have HW13 := Lib.hid (HW12.out.keep hf12)
      have F13 := Lib.hid ((F11.out.trans hf11).trans hf12)
      have E13 := Lib.hid ((hf10.trans hf11).trans hf12)
      clear Hgx hf10 hf11 hf12 HW10 HW11 HW12 F11
      have k0 := HW13.out.two 0; have k1 := HW13.out.two 1; have k2 := HW13.out.two 2; have k3 := HW13.out.two 3; have k4 := HW13.out.two 4; have k5 := HW13.out.two 5; have k6 := HW13.out.two 6; have k7 := HW13.out.two 7
      go_wp2_with fail
      refine (Hoy.out _ F13.out).mono ?_
      rintro e w13 ⟨⟨TD, tc, tb, tof, te, rfl, hta, htag, hlim⟩, hf13⟩
      clear k0 k1 k2 k3 k4 k5 k6 k7
      have HW14 := Lib.hid (HW13.out.keep hf13)
      have Hgy := Lib.hid (fun (W : World) (h : Fr w13.heap.size w13 W) hw => gPermits (B := w13.heap.size) tc te n W (GT.keep ⟨htag, Gy.out.tok, hlim, Gy.out.eq, Gy.out.good, Gy.out.size⟩ h.2) h.2.size (Hpt.out _ hw) (Hpi.out _ hw) (Hpv.out _ hw) ⟨hn1, hn2⟩)
      rw [Hq.out] at Hgy
      clear hta htag hlim
      go_wp2_with fail
      refine (Int_any n _).mono ?_
      rintro e w14 ⟨rfl, hf14⟩
      have HW15 := Lib.hid (HW14.out.keep hf14)
      go_wp2_with fail
      refine (Hgy.out _ hf14 HW15.out.fr).mono ?_
      rintro e w15 ⟨rfl, hf15⟩
      have HW16 := Lib.hid (HW15.out.keep hf15)
      have E16 := Lib.hid (((E13.out.trans hf13).trans hf14).trans hf15)
      clear Hgy hf13 hf14 hf15 HW13 HW14 HW15 F13 E13
      have hsx : Tx.size ≤ 9 := by have := Tx.flat_length 0; rw [← Gx.out.eq] at this; omega
      have hsy : Ty.size ≤ 9 := by have := Ty.flat_length 0; rw [← Gy.out.eq] at this; omega
      have Hsz := Lib.hid (And.intro hsx hsy)
      have hfx := nums_few Gx.out.good hsx
      have hfy := nums_few Gy.out.good hsy
      have Hfew := Lib.hid (And.intro hfx hfy)
      have Hinx := Lib.hid (fun (W : World) (h : Fr w9.heap.size w9 W) => rIn_any (B := w9.heap.size) Tx.nums n SA sn W (Hspz.out.keep h.2) h.2.size (by omega))
      rw [Hp.out] at Hinx
      have Hiny := Lib.hid (fun (W : World) (h : Fr w9.heap.size w9 W) => rIn_any (B := w9.heap.size) Ty.nums n SB sm W (Hspy.out.keep h.2) h.2.size (by omega))
      rw [Hq.out] at Hiny
      have Hvx := Lib.hid (show ∀ x ∈ xl, ∀ a ∈ x.args, -1000000 ≤ a ∧ a ≤ 1000000 by rw [Gx.out.eq]; exact flat_vals (by omega))
      have Hvy := Lib.hid (show ∀ x ∈ yl, ∀ a ∈ x.args, -1000000 ≤ a ∧ a ≤ 1000000 by rw [Gy.out.eq]; exact flat_vals (by omega))
      clear hsx hsy hfx hfy
      go_wp2_with fail
      refine (Hinx.out _ E16.out).mono ?_
      rintro e w16 ⟨rfl, m1, rfl⟩
      have hbp : (p != p) = false := by cases p <;> rfl
      have hbq : (q != q) = false := by cases q <;> rfl
      have Hbp := Lib.hid hbp; have Hbq := Lib.hid hbq
      go_wp2_with fail
      refine (Hiny.out _ (E16.out.drewN m1)).mono ?_
      rintro e w17 ⟨rfl, m2, rfl⟩
      have E18 := Lib.hid (E16.out.drewN (m1 + m2))
      have HW18 := Lib.hid (HW16.out.keep ((Fr.self _).drewN (m1 + m2)))
      clear HW16 E16
      go_wp2_with fail
      go_loopw [15, 16, 17, 18, 19, 20, 21, 22] (fun s15 _ _ _ _ _ _ _ wr => ∃ z : Int, (z = 0 ∨ z = 1 ∨ z = 2 ∨ z = 3) ∧ s15 = .int .i64 z ∧ Hid (AlgW w [.int .i64 2, .string ⟨#[]⟩, .slice P1 xt.length e1, .slice P2 0 e2, .bool false, .int .i64 0, .slice P3 0 e3, .slice (some ⟨ab, ao, none⟩) xl.length e4] [.int .i64 2, .string ⟨#[]⟩, .slice Q1 yt.length d1, .slice Q2 0 d2, .bool false, .int .i64 0, .slice Q3 0 d3, .slice (some ⟨bb', bo, none⟩) yl.length d4] wr) ∧ Hid (Fr w9.heap.size w9 wr)) (fun s15 _ _ _ _ _ _ _ _ => 3 - (intOf s15).toNat)
      case atStart => exact ⟨0, .inl rfl, rfl, HW18, E18⟩
      case round =>
        obtain ⟨z, hz, rfl, HL, EL⟩ := hrel
        have HF := Lib.hid (F10.out.trans EL.out)
        rcases hz with rfl | rfl | rfl | rfl
        · have Hov := Lib.hid (fun (W : World) (g gc : Nat) (h : Fr wr.heap.size wr W) g0 g1 => over_two (B := wc.heap.size) 4 xl yl (some ⟨ab, ao, none⟩) (some ⟨bb', bo, none⟩) e4 d4 g gc W (Gx.out.lim.keep (HF.out.trans h).2) (Gy.out.lim.keep (HF.out.trans h).2) (HF.out.trans h).2.size g0 g1 Hxn.out Hyn.out (by have := Hxl.out; omega) (by have := Hyl.out; omega) Hxa.out Hya.out Hvx.out Hvy.out Ox.out Oy.out (by simp [InI]))
          obtain ⟨ol, hol⟩ : ∃ l, overL 4 xl yl = l := ⟨_, rfl⟩
          have Holl := Lib.hid (show 1 ≤ ol.length ∧ ol.length ≤ 19 by rw [← hol, over_len]; have := Hxl.out; have := Hyl.out; omega)
          have Hola := Lib.hid (show ∀ x ∈ ol, x.args.length ≤ 1000 by rw [← hol]; exact over_args (by omega) Hxa.out Hya.out)
          have Holo := Lib.hid (show ∀ x ∈ ol, NodeOk x by rw [← hol]; exact over_nodes (by simp [InI]) Ox.out Oy.out)
          have Hgt := Lib.hid (show ∀ (B : Nat) (W : World) (TA : Option Addr) (b off : Nat), TagAt B W TA xt → LimAt B W (some ⟨b, off, none⟩) ol → GT B W xt TA b off ol (.node 4 Tx Ty) from fun B W TA b off h1 h2 => by
            rw [← hol, Gx.out.eq, Gy.out.eq] at h2 ⊢
            exact over_gt (by omega) Gx.out.good Gy.out.good Hsz.out.1 Hsz.out.2 h1 Gx.out.tok h2)
          have Hce := Lib.hid (comb_none (op := 0) (by omega) Gx.out.good Gy.out.good Hsz.out.1 Hsz.out.2)
          have hcf := comb_few (op := 0) Gx.out.good Gy.out.good Hsz.out.1 Hsz.out.2
          have hci := comb_in 0 n Gx.out.good Gy.out.good
          have hnn := (node_nums Tx Ty).1
          obtain ⟨cl, hcl⟩ : ∃ l, combineL 0 Tx.nums Ty.nums = l := ⟨_, rfl⟩
          rw [hcl] at hcf hci hnn
          rw [Hp.out, Hq.out] at hci
          obtain ⟨r, hr⟩ : ∃ b, isInB 0 p q = b := ⟨_, rfl⟩
          rw [hr] at hci
          rw [hol] at Hov
          have Hcl := Lib.hid hcl; have Hci := Lib.hid hci; have Hnn := Lib.hid hnn; have Hcf := Lib.hid hcf; have Hr := Lib.hid hr
          clear hol hcl hci hnn hcf hr
          have hlt := HL.out.lt
          have hlt2 : w.heap.size < wr.heap.size := by omega
          have k0 := HL.out.one 0; have k1 := HL.out.one 1; have k2 := HL.out.one 2; have k3 := HL.out.one 3; have k4 := HL.out.one 4; have k5 := HL.out.one 5; have k6 := HL.out.one 6; have k7 := HL.out.one 7
          have l7 := HL.out.two 7
          go_wp2_with fail
          refine (Hov.out _ _ _ (((Fr.self wr).alloc _).alloc _) ?g0 ?g1).mono ?_
          case g0 => exact (cell_two _ _ _ _ 0).trans rfl
          case g1 => exact (cell_two _ _ _ _ 1).trans rfl
          rintro e r2 ⟨⟨b2, c2, rfl, hlim2⟩, hf2⟩
          clear k0 k1 k2 k3 k4 k5 k6 k7 l7 hlt hlt2
          have hn2 := (new_two wr #[.int .i64 2, .string ⟨#[]⟩, .slice P1 xt.length e1, .slice P2 0 e2, .bool false, .int .i64 0, .slice P3 0 e3, .slice (some ⟨ab, ao, none⟩) xl.length e4] _).keep hf2
          have q0 : r2.cell? ⟨wr.heap.size, 0, none⟩ = some (.int .i64 2) := hn2.cell 0
          have q1 : r2.cell? ⟨wr.heap.size, 1, none⟩ = some (.string ⟨#[]⟩) := hn2.cell 1
          have q2 : r2.cell? ⟨wr.heap.size, 2, none⟩ = some (.slice P1 xt.length e1) := hn2.cell 2
          have q3 : r2.cell? ⟨wr.heap.size, 3, none⟩ = some (.slice P2 0 e2) := hn2.cell 3
          have q4 : r2.cell? ⟨wr.heap.size, 4, none⟩ = some (.bool false) := hn2.cell 4
          have q5 : r2.cell? ⟨wr.heap.size, 5, none⟩ = some (.int .i64 0) := hn2.cell 5
          have q6 : r2.cell? ⟨wr.heap.size, 6, none⟩ = some (.slice P3 0 e3) := hn2.cell 6
          have q7 : r2.cell? ⟨wr.heap.size, 7, none⟩ = some (.slice (some ⟨ab, ao, none⟩) xl.length e4) := hn2.cell 7
          have z7 := hn2.frozen 7
          have hgl := hn2.lt
          have HN := Lib.hid (hn2.set (.slice (some ⟨b2, 0, none⟩) ol.length c2))
          have Hlx := Lib.hid (hlim2 (r2.setCell ⟨wr.heap.size, 7, none⟩ (.slice (some ⟨b2, 0, none⟩) ol.length c2)) (NewT.stay _ (by rw [World.size_alloc, World.size_alloc]; omega)) (by rw [set_size]; exact Nat.le_refl _))
          have Hfx := Lib.hid (((((Fr.self wr).alloc _).alloc _).trans hf2).setCell (p := ⟨wr.heap.size, 7, none⟩) (Nat.le_refl _) (.slice (some ⟨b2, 0, none⟩) ol.length c2))
          have hol2 := Holl.out.2
          clear hn2 hlim2 hf2 Hov
          go_wp2_with fail
          clear q0 q1 q2 q3 q4 q5 q6 q7 z7 hgl hol2
          generalize r2.setCell ⟨wr.heap.size, 7, none⟩ (.slice (some ⟨b2, 0, none⟩) ol.length c2) = rx at *
          have Hot := Lib.hid (fun (W : World) (h : Fr rx.heap.size rx W) => ownType_flat (B := rx.heap.size) xt ol P1 P2 P3 (some ⟨b2, 0, none⟩) e1 e2 e3 c2 W (((Gx.out.tag.keep (HF.out.trans Hfx.out).2).mono (HF.out.trans Hfx.out).2.size).keep h.2) Nx.out (Hlx.out.keep h.2) h.2.size Tx3.out (by have := Holl.out; omega) Hola.out Holo.out (fun e => by have := Holl.out; rw [e] at this; simp at this))
          have FW := Lib.hid (HL.out.fr.trans Hfx.out)
          have FE := Lib.hid (EL.out.trans Hfx.out)
          refine (Hot.out _ (Fr.self _)).mono ?_
          rintro e r3 ⟨⟨TE, tc, tb, tof, te, rfl, hta, htag, hlim⟩, hf3⟩
          have Hgo := Lib.hid (fun (W : World) (h : Fr r3.heap.size r3 W) hw => gPermits (B := r3.heap.size) tc te n W (GT.keep (Hgt.out _ _ _ _ _ htag hlim) h.2) h.2.size (Hpt.out _ hw) (Hpi.out _ hw) (Hpv.out _ hw) ⟨hn1, hn2⟩)
          rw [Hnn.out, Hci.out] at Hgo
          clear hta htag hlim
          go_wp2_with fail
          refine (Int_any n _).mono ?_
          rintro e r4 ⟨rfl, hf4⟩
          go_wp2_with fail
          refine (Hgo.out _ hf4 ((FW.out.trans hf3).trans hf4)).mono ?_
          rintro e r5 ⟨rfl, hf5⟩
          have R5 := Lib.hid ((hf3.trans hf4).trans hf5)
          clear Hgo hf3 hf4 hf5
          go_wp2_with fail
          refine (rOwnSpans_any Tx.nums SA sn w9.heap.size _ Hsnx.out (Hspz.out.keep (FE.out.trans R5.out).2) (by have := Hfew.out; omega)).mono ?_
          rintro e r6 ⟨⟨X1, x1, rfl, hx10, hxs⟩, hf6⟩
          have Hxs := Lib.hid hxs; have Hx10 := Lib.hid hx10
          clear hxs hx10
          go_wp2_with fail
          refine (rOwnSpans_any Ty.nums SB sm w9.heap.size _ Hsmy.out (Hspy.out.keep ((FE.out.trans R5.out).trans hf6).2) (by have := Hfew.out; omega)).mono ?_
          rintro e r7 ⟨⟨Y1, y1, rfl, hy10, hys⟩, hf7⟩
          have Hcm := Lib.hid (Combined_any (B := r7.heap.size) 0 Tx.nums Ty.nums X1 Y1 x1 y1 r7 ((Hxs.out.keep hf7.2).mono hf7.2.size) hys Hx10.out hy10 (Nat.le_refl _) (by have := Hfew.out; omega) (by have := Hfew.out; omega))
          rw [Hce.out] at Hcm
          clear hys hy10
          go_wp2_with fail
          refine (Hcm.out).mono ?_
          rintro e r8 ⟨⟨v, rfl, hres⟩, hf8⟩
          have hrow := hres.2 Hce.out
          rw [Hcl.out] at hrow
          obtain ⟨A7, c7, rfl, -, hs7, -, -⟩ := SpAt.of hrow
          have Hs7 := Lib.hid hs7
          have R8 := Lib.hid (((R5.out.trans hf6).trans hf7).trans hf8)
          clear hres hrow hs7 hf6 hf7 hf8 Hcm
          have hN8 := HN.out.keep R8.out
          have q0 : r8.cell? ⟨wr.heap.size, 0, none⟩ = some (.int .i64 2) := hN8.cell 0
          have q1 : r8.cell? ⟨wr.heap.size, 1, none⟩ = some (.string ⟨#[]⟩) := hN8.cell 1
          have q2 : r8.cell? ⟨wr.heap.size, 2, none⟩ = some (.slice P1 xt.length e1) := hN8.cell 2
          have q3 : r8.cell? ⟨wr.heap.size, 3, none⟩ = some (.slice P2 0 e2) := hN8.cell 3
          have q4 : r8.cell? ⟨wr.heap.size, 4, none⟩ = some (.bool false) := hN8.cell 4
          have q5 : r8.cell? ⟨wr.heap.size, 5, none⟩ = some (.int .i64 0) := hN8.cell 5
          have q6 : r8.cell? ⟨wr.heap.size, 6, none⟩ = some (.slice P3 0 e3) := hN8.cell 6
          have q7 : r8.cell? ⟨wr.heap.size, 7, none⟩ = some (.slice (some ⟨b2, 0, none⟩) ol.length c2) := hN8.cell 7
          clear hN8
          go_wp2_with fail
          refine (Hot.out _ R8.out).mono ?_
          rintro e r9 ⟨⟨TE2, tc2, tb2, tof2, te2, rfl, hta, htag, hlim⟩, hf9⟩
          clear q0 q1 q2 q3 q4 q5 q6 q7
          have Hso := Lib.hid (gSpansOf (B := r9.heap.size) tc2 te2 r9 (Hgt.out _ _ _ _ _ htag hlim) (Nat.le_refl _) (Hpt.out _ ((FW.out.trans R8.out).trans hf9)))
          rw [Hnn.out] at Hso
          clear hta htag hlim
          go_wp2_with fail
          refine (Hso.out).mono ?_
          rintro e r10 ⟨A9, c9, rfl, -, hs9, hf10⟩
          have R10 := Lib.hid ((R8.out.trans hf9).trans hf10)
          have hs70 := (Hs7.out.keep (hf9.trans hf10).2).mono (hf9.trans hf10).2.size
          have Hss := Lib.hid (rSameSpans_any cl cl A7 A9 c7 c9 r10.heap.size r10 hs70 hs9 (Nat.le_refl _) (Nat.le_trans Hcf.out (by decide)) (Nat.le_trans Hcf.out (by decide)))
          rw [decide_eq_true rfl] at Hss
          have Hin := Lib.hid (fun (W : World) (h : Fr r10.heap.size r10 W) => rIn_any (B := r10.heap.size) cl n A7 c7 W (hs70.keep h.2) h.2.size (Nat.le_trans Hcf.out (by decide)))
          rw [Hci.out] at Hin
          clear hs70 hs9 hf9 hf10 Hso
          have hrr : (r != r) = false := by cases r <;> rfl
          go_wp2_with fail
          refine (Hss.out).mono ?_
          rintro e r11 ⟨rfl, hf11⟩
          go_wp2_with fail
          refine (Hin.out _ hf11).mono ?_
          rintro e r12 ⟨rfl, m3, rfl⟩
          have HLn := Lib.hid (HL.out.keep (Hfx.out.trans (R10.out.trans (hf11.drewN m3))))
          have ELn := Lib.hid (EL.out.trans (Hfx.out.trans (R10.out.trans (hf11.drewN m3))))
          clear hf11
          have hr2 := Hr.out
          cases p <;> cases q <;> (cases hr2; go_wp2_with fail; go_roundw; (case rel => exact ⟨0 + 1, by omega, rfl, HLn, ELn⟩); (case measure => simp [intOf]))
        · have Hov := Lib.hid (fun (W : World) (g gc : Nat) (h : Fr wr.heap.size wr W) g0 g1 => over_two (B := wc.heap.size) 5 xl yl (some ⟨ab, ao, none⟩) (some ⟨bb', bo, none⟩) e4 d4 g gc W (Gx.out.lim.keep (HF.out.trans h).2) (Gy.out.lim.keep (HF.out.trans h).2) (HF.out.trans h).2.size g0 g1 Hxn.out Hyn.out (by have := Hxl.out; omega) (by have := Hyl.out; omega) Hxa.out Hya.out Hvx.out Hvy.out Ox.out Oy.out (by simp [InI]))
          obtain ⟨ol, hol⟩ : ∃ l, overL 5 xl yl = l := ⟨_, rfl⟩
          have Holl := Lib.hid (show 1 ≤ ol.length ∧ ol.length ≤ 19 by rw [← hol, over_len]; have := Hxl.out; have := Hyl.out; omega)
          have Hola := Lib.hid (show ∀ x ∈ ol, x.args.length ≤ 1000 by rw [← hol]; exact over_args (by omega) Hxa.out Hya.out)
          have Holo := Lib.hid (show ∀ x ∈ ol, NodeOk x by rw [← hol]; exact over_nodes (by simp [InI]) Ox.out Oy.out)
          have Hgt := Lib.hid (show ∀ (B : Nat) (W : World) (TA : Option Addr) (b off : Nat), TagAt B W TA xt → LimAt B W (some ⟨b, off, none⟩) ol → GT B W xt TA b off ol (.node 5 Tx Ty) from fun B W TA b off h1 h2 => by
            rw [← hol, Gx.out.eq, Gy.out.eq] at h2 ⊢
            exact over_gt (by omega) Gx.out.good Gy.out.good Hsz.out.1 Hsz.out.2 h1 Gx.out.tok h2)
          have Hce := Lib.hid (comb_none (op := 1) (by omega) Gx.out.good Gy.out.good Hsz.out.1 Hsz.out.2)
          have hcf := comb_few (op := 1) Gx.out.good Gy.out.good Hsz.out.1 Hsz.out.2
          have hci := comb_in 1 n Gx.out.good Gy.out.good
          have hnn := (node_nums Tx Ty).2.1
          obtain ⟨cl, hcl⟩ : ∃ l, combineL 1 Tx.nums Ty.nums = l := ⟨_, rfl⟩
          rw [hcl] at hcf hci hnn
          rw [Hp.out, Hq.out] at hci
          obtain ⟨r, hr⟩ : ∃ b, isInB 1 p q = b := ⟨_, rfl⟩
          rw [hr] at hci
          rw [hol] at Hov
          have Hcl := Lib.hid hcl; have Hci := Lib.hid hci; have Hnn := Lib.hid hnn; have Hcf := Lib.hid hcf; have Hr := Lib.hid hr
          clear hol hcl hci hnn hcf hr
          have hlt := HL.out.lt
          have hlt2 : w.heap.size < wr.heap.size := by omega
          have k0 := HL.out.one 0; have k1 := HL.out.one 1; have k2 := HL.out.one 2; have k3 := HL.out.one 3; have k4 := HL.out.one 4; have k5 := HL.out.one 5; have k6 := HL.out.one 6; have k7 := HL.out.one 7
          have l7 := HL.out.two 7
          go_wp2_with fail
          refine (Hov.out _ _ _ (((Fr.self wr).alloc _).alloc _) ?g0 ?g1).mono ?_
          case g0 => exact (cell_two _ _ _ _ 0).trans rfl
          case g1 => exact (cell_two _ _ _ _ 1).trans rfl
          rintro e r2 ⟨⟨b2, c2, rfl, hlim2⟩, hf2⟩
          clear k0 k1 k2 k3 k4 k5 k6 k7 l7 hlt hlt2
          have hn2 := (new_two wr #[.int .i64 2, .string ⟨#[]⟩, .slice P1 xt.length e1, .slice P2 0 e2, .bool false, .int .i64 0, .slice P3 0 e3, .slice (some ⟨ab, ao, none⟩) xl.length e4] _).keep hf2
          have q0 : r2.cell? ⟨wr.heap.size, 0, none⟩ = some (.int .i64 2) := hn2.cell 0
          have q1 : r2.cell? ⟨wr.heap.size, 1, none⟩ = some (.string ⟨#[]⟩) := hn2.cell 1
          have q2 : r2.cell? ⟨wr.heap.size, 2, none⟩ = some (.slice P1 xt.length e1) := hn2.cell 2
          have q3 : r2.cell? ⟨wr.heap.size, 3, none⟩ = some (.slice P2 0 e2) := hn2.cell 3
          have q4 : r2.cell? ⟨wr.heap.size, 4, none⟩ = some (.bool false) := hn2.cell 4
          have q5 : r2.cell? ⟨wr.heap.size, 5, none⟩ = some (.int .i64 0) := hn2.cell 5
          have q6 : r2.cell? ⟨wr.heap.size, 6, none⟩ = some (.slice P3 0 e3) := hn2.cell 6
          have q7 : r2.cell? ⟨wr.heap.size, 7, none⟩ = some (.slice (some ⟨ab, ao, none⟩) xl.length e4) := hn2.cell 7
          have z7 := hn2.frozen 7
          have hgl := hn2.lt
          have HN := Lib.hid (hn2.set (.slice (some ⟨b2, 0, none⟩) ol.length c2))
          have Hlx := Lib.hid (hlim2 (r2.setCell ⟨wr.heap.size, 7, none⟩ (.slice (some ⟨b2, 0, none⟩) ol.length c2)) (NewT.stay _ (by rw [World.size_alloc, World.size_alloc]; omega)) (by rw [set_size]; exact Nat.le_refl _))
          have Hfx := Lib.hid (((((Fr.self wr).alloc _).alloc _).trans hf2).setCell (p := ⟨wr.heap.size, 7, none⟩) (Nat.le_refl _) (.slice (some ⟨b2, 0, none⟩) ol.length c2))
          have hol2 := Holl.out.2
          clear hn2 hlim2 hf2 Hov
          go_wp2_with fail
          clear q0 q1 q2 q3 q4 q5 q6 q7 z7 hgl hol2
          generalize r2.setCell ⟨wr.heap.size, 7, none⟩ (.slice (some ⟨b2, 0, none⟩) ol.length c2) = rx at *
          have Hot := Lib.hid (fun (W : World) (h : Fr rx.heap.size rx W) => ownType_flat (B := rx.heap.size) xt ol P1 P2 P3 (some ⟨b2, 0, none⟩) e1 e2 e3 c2 W (((Gx.out.tag.keep (HF.out.trans Hfx.out).2).mono (HF.out.trans Hfx.out).2.size).keep h.2) Nx.out (Hlx.out.keep h.2) h.2.size Tx3.out (by have := Holl.out; omega) Hola.out Holo.out (fun e => by have := Holl.out; rw [e] at this; simp at this))
          have FW := Lib.hid (HL.out.fr.trans Hfx.out)
          have FE := Lib.hid (EL.out.trans Hfx.out)
          refine (Hot.out _ (Fr.self _)).mono ?_
          rintro e r3 ⟨⟨TE, tc, tb, tof, te, rfl, hta, htag, hlim⟩, hf3⟩
          have Hgo := Lib.hid (fun (W : World) (h : Fr r3.heap.size r3 W) hw => gPermits (B := r3.heap.size) tc te n W (GT.keep (Hgt.out _ _ _ _ _ htag hlim) h.2) h.2.size (Hpt.out _ hw) (Hpi.out _ hw) (Hpv.out _ hw) ⟨hn1, hn2⟩)
          rw [Hnn.out, Hci.out] at Hgo
          clear hta htag hlim
          go_wp2_with fail
          refine (Int_any n _).mono ?_
          rintro e r4 ⟨rfl, hf4⟩
          go_wp2_with fail
          refine (Hgo.out _ hf4 ((FW.out.trans hf3).trans hf4)).mono ?_
          rintro e r5 ⟨rfl, hf5⟩
          have R5 := Lib.hid ((hf3.trans hf4).trans hf5)
          clear Hgo hf3 hf4 hf5
          go_wp2_with fail
          refine (rOwnSpans_any Tx.nums SA sn w9.heap.size _ Hsnx.out (Hspz.out.keep (FE.out.trans R5.out).2) (by have := Hfew.out; omega)).mono ?_
          rintro e r6 ⟨⟨X1, x1, rfl, hx10, hxs⟩, hf6⟩
          have Hxs := Lib.hid hxs; have Hx10 := Lib.hid hx10
          clear hxs hx10
          go_wp2_with fail
          refine (rOwnSpans_any Ty.nums SB sm w9.heap.size _ Hsmy.out (Hspy.out.keep ((FE.out.trans R5.out).trans hf6).2) (by have := Hfew.out; omega)).mono ?_
          rintro e r7 ⟨⟨Y1, y1, rfl, hy10, hys⟩, hf7⟩
          have Hcm := Lib.hid (Combined_any (B := r7.heap.size) 1 Tx.nums Ty.nums X1 Y1 x1 y1 r7 ((Hxs.out.keep hf7.2).mono hf7.2.size) hys Hx10.out hy10 (Nat.le_refl _) (by have := Hfew.out; omega) (by have := Hfew.out; omega))
          rw [Hce.out] at Hcm
          clear hys hy10
          go_wp2_with fail
          refine (Hcm.out).mono ?_
          rintro e r8 ⟨⟨v, rfl, hres⟩, hf8⟩
          have hrow := hres.2 Hce.out
          rw [Hcl.out] at hrow
          obtain ⟨A7, c7, rfl, -, hs7, -, -⟩ := SpAt.of hrow
          have Hs7 := Lib.hid hs7
          have R8 := Lib.hid (((R5.out.trans hf6).trans hf7).trans hf8)
          clear hres hrow hs7 hf6 hf7 hf8 Hcm
          have hN8 := HN.out.keep R8.out
          have q0 : r8.cell? ⟨wr.heap.size, 0, none⟩ = some (.int .i64 2) := hN8.cell 0
          have q1 : r8.cell? ⟨wr.heap.size, 1, none⟩ = some (.string ⟨#[]⟩) := hN8.cell 1
          have q2 : r8.cell? ⟨wr.heap.size, 2, none⟩ = some (.slice P1 xt.length e1) := hN8.cell 2
          have q3 : r8.cell? ⟨wr.heap.size, 3, none⟩ = some (.slice P2 0 e2) := hN8.cell 3
          have q4 : r8.cell? ⟨wr.heap.size, 4, none⟩ = some (.bool false) := hN8.cell 4
          have q5 : r8.cell? ⟨wr.heap.size, 5, none⟩ = some (.int .i64 0) := hN8.cell 5
          have q6 : r8.cell? ⟨wr.heap.size, 6, none⟩ = some (.slice P3 0 e3) := hN8.cell 6
          have q7 : r8.cell? ⟨wr.heap.size, 7, none⟩ = some (.slice (some ⟨b2, 0, none⟩) ol.length c2) := hN8.cell 7
          clear hN8
          go_wp2_with fail
          refine (Hot.out _ R8.out).mono ?_
          rintro e r9 ⟨⟨TE2, tc2, tb2, tof2, te2, rfl, hta, htag, hlim⟩, hf9⟩
          clear q0 q1 q2 q3 q4 q5 q6 q7
          have Hso := Lib.hid (gSpansOf (B := r9.heap.size) tc2 te2 r9 (Hgt.out _ _ _ _ _ htag hlim) (Nat.le_refl _) (Hpt.out _ ((FW.out.trans R8.out).trans hf9)))
          rw [Hnn.out] at Hso
          clear hta htag hlim
          go_wp2_with fail
          refine (Hso.out).mono ?_
          rintro e r10 ⟨A9, c9, rfl, -, hs9, hf10⟩
          have R10 := Lib.hid ((R8.out.trans hf9).trans hf10)
          have hs70 := (Hs7.out.keep (hf9.trans hf10).2).mono (hf9.trans hf10).2.size
          have Hss := Lib.hid (rSameSpans_any cl cl A7 A9 c7 c9 r10.heap.size r10 hs70 hs9 (Nat.le_refl _) (Nat.le_trans Hcf.out (by decide)) (Nat.le_trans Hcf.out (by decide)))
          rw [decide_eq_true rfl] at Hss
          have Hin := Lib.hid (fun (W : World) (h : Fr r10.heap.size r10 W) => rIn_any (B := r10.heap.size) cl n A7 c7 W (hs70.keep h.2) h.2.size (Nat.le_trans Hcf.out (by decide)))
          rw [Hci.out] at Hin
          clear hs70 hs9 hf9 hf10 Hso
          have hrr : (r != r) = false := by cases r <;> rfl
          go_wp2_with fail
          refine (Hss.out).mono ?_
          rintro e r11 ⟨rfl, hf11⟩
          go_wp2_with fail
          refine (Hin.out _ hf11).mono ?_
          rintro e r12 ⟨rfl, m3, rfl⟩
          have HLn := Lib.hid (HL.out.keep (Hfx.out.trans (R10.out.trans (hf11.drewN m3))))
          have ELn := Lib.hid (EL.out.trans (Hfx.out.trans (R10.out.trans (hf11.drewN m3))))
          clear hf11
          have hr2 := Hr.out
          cases p <;> cases q <;> (cases hr2; go_wp2_with fail; go_roundw; (case rel => exact ⟨1 + 1, by omega, rfl, HLn, ELn⟩); (case measure => simp [intOf]))
        · have Hov := Lib.hid (fun (W : World) (g gc : Nat) (h : Fr wr.heap.size wr W) g0 g1 => over_two (B := wc.heap.size) 6 xl yl (some ⟨ab, ao, none⟩) (some ⟨bb', bo, none⟩) e4 d4 g gc W (Gx.out.lim.keep (HF.out.trans h).2) (Gy.out.lim.keep (HF.out.trans h).2) (HF.out.trans h).2.size g0 g1 Hxn.out Hyn.out (by have := Hxl.out; omega) (by have := Hyl.out; omega) Hxa.out Hya.out Hvx.out Hvy.out Ox.out Oy.out (by simp [InI]))
          obtain ⟨ol, hol⟩ : ∃ l, overL 6 xl yl = l := ⟨_, rfl⟩
          have Holl := Lib.hid (show 1 ≤ ol.length ∧ ol.length ≤ 19 by rw [← hol, over_len]; have := Hxl.out; have := Hyl.out; omega)
          have Hola := Lib.hid (show ∀ x ∈ ol, x.args.length ≤ 1000 by rw [← hol]; exact over_args (by omega) Hxa.out Hya.out)
          have Holo := Lib.hid (show ∀ x ∈ ol, NodeOk x by rw [← hol]; exact over_nodes (by simp [InI]) Ox.out Oy.out)
          have Hgt := Lib.hid (show ∀ (B : Nat) (W : World) (TA : Option Addr) (b off : Nat), TagAt B W TA xt → LimAt B W (some ⟨b, off, none⟩) ol → GT B W xt TA b off ol (.node 6 Tx Ty) from fun B W TA b off h1 h2 => by
            rw [← hol, Gx.out.eq, Gy.out.eq] at h2 ⊢
            exact over_gt (by omega) Gx.out.good Gy.out.good Hsz.out.1 Hsz.out.2 h1 Gx.out.tok h2)
          have Hce := Lib.hid (comb_none (op := 2) (by omega) Gx.out.good Gy.out.good Hsz.out.1 Hsz.out.2)
          have hcf := comb_few (op := 2) Gx.out.good Gy.out.good Hsz.out.1 Hsz.out.2
          have hci := comb_in 2 n Gx.out.good Gy.out.good
          have hnn := (node_nums Tx Ty).2.2
          obtain ⟨cl, hcl⟩ : ∃ l, combineL 2 Tx.nums Ty.nums = l := ⟨_, rfl⟩
          rw [hcl] at hcf hci hnn
          rw [Hp.out, Hq.out] at hci
          obtain ⟨r, hr⟩ : ∃ b, isInB 2 p q = b := ⟨_, rfl⟩
          rw [hr] at hci
          rw [hol] at Hov
          have Hcl := Lib.hid hcl; have Hci := Lib.hid hci; have Hnn := Lib.hid hnn; have Hcf := Lib.hid hcf; have Hr := Lib.hid hr
          clear hol hcl hci hnn hcf hr
          have hlt := HL.out.lt
          have hlt2 : w.heap.size < wr.heap.size := by omega
          have k0 := HL.out.one 0; have k1 := HL.out.one 1; have k2 := HL.out.one 2; have k3 := HL.out.one 3; have k4 := HL.out.one 4; have k5 := HL.out.one 5; have k6 := HL.out.one 6; have k7 := HL.out.one 7
          have l7 := HL.out.two 7
          go_wp2_with fail
          refine (Hov.out _ _ _ (((Fr.self wr).alloc _).alloc _) ?g0 ?g1).mono ?_
          case g0 => exact (cell_two _ _ _ _ 0).trans rfl
          case g1 => exact (cell_two _ _ _ _ 1).trans rfl
          rintro e r2 ⟨⟨b2, c2, rfl, hlim2⟩, hf2⟩
          clear k0 k1 k2 k3 k4 k5 k6 k7 l7 hlt hlt2
          have hn2 := (new_two wr #[.int .i64 2, .string ⟨#[]⟩, .slice P1 xt.length e1, .slice P2 0 e2, .bool false, .int .i64 0, .slice P3 0 e3, .slice (some ⟨ab, ao, none⟩) xl.length e4] _).keep hf2
          have q0 : r2.cell? ⟨wr.heap.size, 0, none⟩ = some (.int .i64 2) := hn2.cell 0
          have q1 : r2.cell? ⟨wr.heap.size, 1, none⟩ = some (.string ⟨#[]⟩) := hn2.cell 1
          have q2 : r2.cell? ⟨wr.heap.size, 2, none⟩ = some (.slice P1 xt.length e1) := hn2.cell 2
          have q3 : r2.cell? ⟨wr.heap.size, 3, none⟩ = some (.slice P2 0 e2) := hn2.cell 3
          have q4 : r2.cell? ⟨wr.heap.size, 4, none⟩ = some (.bool false) := hn2.cell 4
          have q5 : r2.cell? ⟨wr.heap.size, 5, none⟩ = some (.int .i64 0) := hn2.cell 5
          have q6 : r2.cell? ⟨wr.heap.size, 6, none⟩ = some (.slice P3 0 e3) := hn2.cell 6
          have q7 : r2.cell? ⟨wr.heap.size, 7, none⟩ = some (.slice (some ⟨ab, ao, none⟩) xl.length e4) := hn2.cell 7
          have z7 := hn2.frozen 7
          have hgl := hn2.lt
          have HN := Lib.hid (hn2.set (.slice (some ⟨b2, 0, none⟩) ol.length c2))
          have Hlx := Lib.hid (hlim2 (r2.setCell ⟨wr.heap.size, 7, none⟩ (.slice (some ⟨b2, 0, none⟩) ol.length c2)) (NewT.stay _ (by rw [World.size_alloc, World.size_alloc]; omega)) (by rw [set_size]; exact Nat.le_refl _))
          have Hfx := Lib.hid (((((Fr.self wr).alloc _).alloc _).trans hf2).setCell (p := ⟨wr.heap.size, 7, none⟩) (Nat.le_refl _) (.slice (some ⟨b2, 0, none⟩) ol.length c2))
          have hol2 := Holl.out.2
          clear hn2 hlim2 hf2 Hov
          go_wp2_with fail
          clear q0 q1 q2 q3 q4 q5 q6 q7 z7 hgl hol2
          generalize r2.setCell ⟨wr.heap.size, 7, none⟩ (.slice (some ⟨b2, 0, none⟩) ol.length c2) = rx at *
          have Hot := Lib.hid (fun (W : World) (h : Fr rx.heap.size rx W) => ownType_flat (B := rx.heap.size) xt ol P1 P2 P3 (some ⟨b2, 0, none⟩) e1 e2 e3 c2 W (((Gx.out.tag.keep (HF.out.trans Hfx.out).2).mono (HF.out.trans Hfx.out).2.size).keep h.2) Nx.out (Hlx.out.keep h.2) h.2.size Tx3.out (by have := Holl.out; omega) Hola.out Holo.out (fun e => by have := Holl.out; rw [e] at this; simp at this))
          have FW := Lib.hid (HL.out.fr.trans Hfx.out)
          have FE := Lib.hid (EL.out.trans Hfx.out)
          refine (Hot.out _ (Fr.self _)).mono ?_
          rintro e r3 ⟨⟨TE, tc, tb, tof, te, rfl, hta, htag, hlim⟩, hf3⟩
          have Hgo := Lib.hid (fun (W : World) (h : Fr r3.heap.size r3 W) hw => gPermits (B := r3.heap.size) tc te n W (GT.keep (Hgt.out _ _ _ _ _ htag hlim) h.2) h.2.size (Hpt.out _ hw) (Hpi.out _ hw) (Hpv.out _ hw) ⟨hn1, hn2⟩)
          rw [Hnn.out, Hci.out] at Hgo
          clear hta htag hlim
          go_wp2_with fail
          refine (Int_any n _).mono ?_
          rintro e r4 ⟨rfl, hf4⟩
          go_wp2_with fail
          refine (Hgo.out _ hf4 ((FW.out.trans hf3).trans hf4)).mono ?_
          rintro e r5 ⟨rfl, hf5⟩
          have R5 := Lib.hid ((hf3.trans hf4).trans hf5)
          clear Hgo hf3 hf4 hf5
          go_wp2_with fail
          refine (rOwnSpans_any Tx.nums SA sn w9.heap.size _ Hsnx.out (Hspz.out.keep (FE.out.trans R5.out).2) (by have := Hfew.out; omega)).mono ?_
          rintro e r6 ⟨⟨X1, x1, rfl, hx10, hxs⟩, hf6⟩
          have Hxs := Lib.hid hxs; have Hx10 := Lib.hid hx10
          clear hxs hx10
          go_wp2_with fail
          refine (rOwnSpans_any Ty.nums SB sm w9.heap.size _ Hsmy.out (Hspy.out.keep ((FE.out.trans R5.out).trans hf6).2) (by have := Hfew.out; omega)).mono ?_
          rintro e r7 ⟨⟨Y1, y1, rfl, hy10, hys⟩, hf7⟩
          have Hcm := Lib.hid (Combined_any (B := r7.heap.size) 2 Tx.nums Ty.nums X1 Y1 x1 y1 r7 ((Hxs.out.keep hf7.2).mono hf7.2.size) hys Hx10.out hy10 (Nat.le_refl _) (by have := Hfew.out; omega) (by have := Hfew.out; omega))
          rw [Hce.out] at Hcm
          clear hys hy10
          go_wp2_with fail
          refine (Hcm.out).mono ?_
          rintro e r8 ⟨⟨v, rfl, hres⟩, hf8⟩
          have hrow := hres.2 Hce.out
          rw [Hcl.out] at hrow
          obtain ⟨A7, c7, rfl, -, hs7, -, -⟩ := SpAt.of hrow
          have Hs7 := Lib.hid hs7
          have R8 := Lib.hid (((R5.out.trans hf6).trans hf7).trans hf8)
          clear hres hrow hs7 hf6 hf7 hf8 Hcm
          have hN8 := HN.out.keep R8.out
          have q0 : r8.cell? ⟨wr.heap.size, 0, none⟩ = some (.int .i64 2) := hN8.cell 0
          have q1 : r8.cell? ⟨wr.heap.size, 1, none⟩ = some (.string ⟨#[]⟩) := hN8.cell 1
          have q2 : r8.cell? ⟨wr.heap.size, 2, none⟩ = some (.slice P1 xt.length e1) := hN8.cell 2
          have q3 : r8.cell? ⟨wr.heap.size, 3, none⟩ = some (.slice P2 0 e2) := hN8.cell 3
          have q4 : r8.cell? ⟨wr.heap.size, 4, none⟩ = some (.bool false) := hN8.cell 4
          have q5 : r8.cell? ⟨wr.heap.size, 5, none⟩ = some (.int .i64 0) := hN8.cell 5
          have q6 : r8.cell? ⟨wr.heap.size, 6, none⟩ = some (.slice P3 0 e3) := hN8.cell 6
          have q7 : r8.cell? ⟨wr.heap.size, 7, none⟩ = some (.slice (some ⟨b2, 0, none⟩) ol.length c2) := hN8.cell 7
          clear hN8
          go_wp2_with fail
          refine (Hot.out _ R8.out).mono ?_
          rintro e r9 ⟨⟨TE2, tc2, tb2, tof2, te2, rfl, hta, htag, hlim⟩, hf9⟩
          clear q0 q1 q2 q3 q4 q5 q6 q7
          have Hso := Lib.hid (gSpansOf (B := r9.heap.size) tc2 te2 r9 (Hgt.out _ _ _ _ _ htag hlim) (Nat.le_refl _) (Hpt.out _ ((FW.out.trans R8.out).trans hf9)))
          rw [Hnn.out] at Hso
          clear hta htag hlim
          go_wp2_with fail
          refine (Hso.out).mono ?_
          rintro e r10 ⟨A9, c9, rfl, -, hs9, hf10⟩
          have R10 := Lib.hid ((R8.out.trans hf9).trans hf10)
          have hs70 := (Hs7.out.keep (hf9.trans hf10).2).mono (hf9.trans hf10).2.size
          have Hss := Lib.hid (rSameSpans_any cl cl A7 A9 c7 c9 r10.heap.size r10 hs70 hs9 (Nat.le_refl _) (Nat.le_trans Hcf.out (by decide)) (Nat.le_trans Hcf.out (by decide)))
          rw [decide_eq_true rfl] at Hss
          have Hin := Lib.hid (fun (W : World) (h : Fr r10.heap.size r10 W) => rIn_any (B := r10.heap.size) cl n A7 c7 W (hs70.keep h.2) h.2.size (Nat.le_trans Hcf.out (by decide)))
          rw [Hci.out] at Hin
          clear hs70 hs9 hf9 hf10 Hso
          have hrr : (r != r) = false := by cases r <;> rfl
          go_wp2_with fail
          refine (Hss.out).mono ?_
          rintro e r11 ⟨rfl, hf11⟩
          go_wp2_with fail
          refine (Hin.out _ hf11).mono ?_
          rintro e r12 ⟨rfl, m3, rfl⟩
          have HLn := Lib.hid (HL.out.keep (Hfx.out.trans (R10.out.trans (hf11.drewN m3))))
          have ELn := Lib.hid (EL.out.trans (Hfx.out.trans (R10.out.trans (hf11.drewN m3))))
          clear hf11
          have hr2 := Hr.out
          cases p <;> cases q <;> (cases hr2; go_wp2_with fail; go_roundw; (case rel => exact ⟨2 + 1, by omega, rfl, HLn, ELn⟩); (case measure => simp [intOf]))
        · go_wp2_with fail
          go_ret
          exact ⟨rfl, HL.out.fr⟩
end Go.Proofs.YtgdedcdjfljcnaaGreatDoor
