/- The law of spans: LimitsSpans. -/
import Derived.Test.YtoelifebmhlokaaGreatDoorSAwake
namespace Go.Proofs.YtoelifebmhlokaaGreatDoor
open Go.RowKit

set_option maxRecDepth 100000 in
set_option maxHeartbeats 4000000 in
theorem limitsSpans_any {B : Nat} (op : Int) (xs ys : List Sp) (A1 A2 : Option Addr) (c1 c2 : Nat) (w : World) (h1 : SpAt B w A1 xs) (h2 : SpAt B w A2 ys) (h10 : A1 = none → c1 = 0) (h20 : A2 = none → c2 = 0) (hB : B ≤ w.heap.size) (hm1 : xs.length ≤ maxLen) (hm2 : ys.length ≤ maxLen)
    (hp : PartTy w) (hi : PartInt w) (hv : PartVal w) :
    Calls Tryz.prog 3 #[.int .i64 op, .slice A1 xs.length c1, .slice A2 ys.length c2] w fun e w' => e = .returned (.bool true) ∧ Fr w.heap.size w w' := by
  have Haw := Lib.hid (awake_any w hp hi hv)
  have Hfew := Lib.hid (fun (A : Option Addr) (n c : Nat) hn w => few_any A n c w hn)
  clear hp hi hv
  by_cases hx : 60 < xs.length
  · have hd : decide (xs.length ≤ 60) = false := decide_eq_false (by omega)
    go_enter Tryz.func3, Tryz.ntmps3
    go_wp2_with fail
    refine (Haw.out).mono ?_
    rintro e w1 ⟨rfl, hf1⟩
    go_wp2_with fail
    refine (Hfew.out _ _ _ hm1 _).mono ?_
    rintro e w' ⟨rfl, rfl⟩
    rw [hd]
    go_wp2_with fail
    go_ret
    exact ⟨rfl, hf1⟩
  by_cases hy : 60 < ys.length
  · have hd : decide (xs.length ≤ 60) = true := decide_eq_true (by omega)
    have hd2 : decide (ys.length ≤ 60) = false := decide_eq_false (by omega)
    go_enter Tryz.func3, Tryz.ntmps3
    go_wp2_with fail
    refine (Haw.out).mono ?_
    rintro e w1 ⟨rfl, hf1⟩
    go_wp2_with fail
    refine (Hfew.out _ _ _ hm1 _).mono ?_
    rintro e w' ⟨rfl, rfl⟩
    rw [hd]
    go_wp2_with fail
    refine (Hfew.out _ _ _ hm2 _).mono ?_
    rintro e w' ⟨rfl, rfl⟩
    rw [hd2]
    go_wp2_with fail
    go_ret
    exact ⟨rfl, hf1⟩
  have hd : decide (xs.length ≤ 60) = true := decide_eq_true (by omega)
  have hd2 : decide (ys.length ≤ 60) = true := decide_eq_true (by omega)
  have hlx : xs.length ≤ 60 := by omega
  have hly : ys.length ≤ 60 := by omega
  have H1 := Lib.hid h1; have H2 := Lib.hid h2
  clear h1 h2 hx hy
  go_enter Tryz.func3, Tryz.ntmps3
  go_wp2_with fail
  refine (Haw.out).mono ?_
  rintro e w1 ⟨rfl, hf1⟩
  go_wp2_with fail
  refine (Hfew.out _ _ _ hm1 _).mono ?_
  rintro e w' ⟨rfl, rfl⟩
  rw [hd]
  go_wp2_with fail
  refine (Hfew.out _ _ _ hm2 _).mono ?_
  rintro e w' ⟨rfl, rfl⟩
  rw [hd2]
  clear hm1 hm2 hd hd2 Hfew Haw
  go_wp2_with fail
  refine (rOwnSpans_any xs A1 c1 B _ h10 (H1.out.keep (hf1.2.mono hB)) (by omega)).mono ?_
  rintro e w2 ⟨⟨A1', c1', rfl, h10', hs1⟩, hf2⟩
  go_wp2_with fail
  refine (CheckSpans_any (B := w2.heap.size) xs A1' c1' _ hs1 (Nat.le_refl _) (by omega)).mono ?_
  rintro e w3 ⟨rfl, hf3⟩
  have hF3 := (hf1.trans hf2).trans hf3
  go_wp2_with fail
  refine (rSpansErr_any (B := B) xs A1 c1 _ (H1.out.keep (hF3.2.mono hB)) (Nat.le_trans hB hF3.2.size) (by omega)).mono ?_
  rintro e w4 ⟨rfl, hf4⟩
  have hF4 := hF3.trans hf4
  clear hs1 h10' hf1 hf2 hf3 hf4 hF3
  go_wp2_with fail
  refine (rOwnSpans_any xs A1 c1 B _ h10 (H1.out.keep (hF4.2.mono hB)) (by omega)).mono ?_
  rintro e w5 ⟨⟨A5, c5, rfl, h50, hs5⟩, hf5⟩
  have hF5 := hF4.trans hf5
  go_wp2_with fail
  refine (rOwnSpans_any ys A2 c2 B _ h20 (H2.out.keep (hF5.2.mono hB)) (by omega)).mono ?_
  rintro e w6 ⟨⟨A6, c6, rfl, h60, hs6⟩, hf6⟩
  have hF6 := hF5.trans hf6
  go_wp2_with fail
  refine (Combined_any (B := w6.heap.size) op xs ys A5 A6 c5 c6 _ ((hs5.keep hf6.2).mono hf6.2.size) hs6 h50 h60 (Nat.le_refl _) (by omega) (by omega)).mono ?_
  rintro e w7 ⟨⟨v, rfl, hres1, hres2⟩, hf7⟩
  have hF7 := hF6.trans hf7
  clear hs5 hs6 hf5 hf6 hf7 hF4 hF5 hF6 h50 h60
  by_cases hop : op < 0 ∨ 3 ≤ op
  · have hce : combE op xs ys = 4 := by
      have h : combErr op xs ys = 4 := by unfold combErr; rw [if_pos hop]
      unfold combE; rw [h]; rfl
    rw [hce] at hres1
    obtain rfl := hres1 (by decide)
    rw [hce]
    clear hres1 hres2 hce
    by_cases he : (spErr xs).2 = 0
    · go_wp2_with fail
      refine (rSpansErr_any (B := B) ys A2 c2 _ (H2.out.keep (hF7.2.mono hB)) (Nat.le_trans hB hF7.2.size) (by omega)).mono ?_
      rintro e w8 ⟨rfl, hf8⟩
      have hF8 := hF7.trans hf8
      go_wp2_with (go_at_call 10; refine (within_no _ (by omega)).mono ?_; rintro e w' ⟨rfl, rfl⟩)
      all_goals
        go_ret
        exact ⟨rfl, hF8⟩
    · go_wp2_with (go_at_call 10; refine (within_no _ (by omega)).mono ?_; rintro e w' ⟨rfl, rfl⟩)
      all_goals
        go_ret
        exact ⟨rfl, hF7⟩
  · have hin : 0 ≤ op ∧ op ≤ 2 := by omega
    by_cases he : (spErr xs).2 = 0
    · by_cases hey : (spErr ys).2 = 0
      · have hop3 : op = 0 ∨ op = 1 ∨ op = 2 := by omega
        have hcr : combErr op xs ys = 0 := by unfold combErr; rw [if_neg hop, if_neg (by simp [he]), hey]
        by_cases hbig : 40 < (combineL op xs ys).length
        · have hce : combE op xs ys = 2 := by unfold combE; rw [if_neg (by simp [hcr]), if_pos hbig]
          rw [hce] at hres1
          obtain rfl := hres1 (by decide)
          rw [hce]
          have hbi : (40 : Int) < (combineL op xs ys).length := by omega
          clear hres1 hres2 hce hbig hcr
          go_wp2_with fail
          refine (rSpansErr_any (B := B) ys A2 c2 _ (H2.out.keep (hF7.2.mono hB)) (Nat.le_trans hB hF7.2.size) (by omega)).mono ?_
          rintro e w8 ⟨rfl, hf8⟩
          have hF8 := hF7.trans hf8
          go_wp2_with (go_at_call 10; refine (within_yes _ (by omega)).mono ?_; rintro e w' ⟨rfl, rfl⟩)
          refine (rCombine_any (B := B) op hop3 xs ys A1 A2 c1 c2 _ (H1.out.keep (hF8.2.mono hB)) (H2.out.keep (hF8.2.mono hB)) h10 h20 (Nat.le_trans hB hF8.2.size) (by omega) (by omega) (spErr_ok he).2 (spErr_ok hey).2).mono ?_
          rintro e w9 ⟨⟨v2, rfl, hv2⟩, hf9⟩
          have hF9 := hF8.trans hf9
          obtain ⟨A9, c9, rfl, -, hs9, -, -⟩ := SpAt.of hv2
          clear hv2 hf8 hf9 hF8
          go_wp2_with fail
          go_ret
          exact ⟨rfl, hF9⟩
        · have hce : combE op xs ys = 0 := by unfold combE; rw [if_neg (by simp [hcr]), if_neg hbig]
          have hrow := hres2 hce
          rw [hce]
          have hbi : ¬ (40 : Int) < (combineL op xs ys).length := by omega
          obtain ⟨A7, c7, rfl, -, hs7, -, -⟩ := SpAt.of hrow
          clear hres1 hres2 hce hrow hcr
          go_wp2_with fail
          refine (rSpansErr_any (B := B) ys A2 c2 _ (H2.out.keep (hF7.2.mono hB)) (Nat.le_trans hB hF7.2.size) (by omega)).mono ?_
          rintro e w8 ⟨rfl, hf8⟩
          have hF8 := hF7.trans hf8
          go_wp2_with (go_at_call 10; refine (within_yes _ (by omega)).mono ?_; rintro e w' ⟨rfl, rfl⟩)
          refine (rCombine_any (B := B) op hop3 xs ys A1 A2 c1 c2 _ (H1.out.keep (hF8.2.mono hB)) (H2.out.keep (hF8.2.mono hB)) h10 h20 (Nat.le_trans hB hF8.2.size) (by omega) (by omega) (spErr_ok he).2 (spErr_ok hey).2).mono ?_
          rintro e w9 ⟨⟨v2, rfl, hv2⟩, hf9⟩
          have hF9 := hF8.trans hf9
          obtain ⟨A9, c9, rfl, -, hs9, -, -⟩ := SpAt.of hv2
          have hs7' := (hs7.keep (hf8.trans hf9).2).mono (hf8.trans hf9).2.size
          have Hss := Lib.hid (rSameSpans_any (combineL op xs ys) (combineL op xs ys) A7 A9 c7 c9 w9.heap.size w9 hs7' hs9 (Nat.le_refl _) (Nat.le_trans (Nat.not_lt.1 hbig) (by decide)) (Nat.le_trans (Nat.not_lt.1 hbig) (by decide)))
          rw [decide_eq_true rfl] at Hss
          clear hv2 hf8 hf9 hF8 hs7 hs7' hs9
          go_wp2_with fail
          refine (Hss.out).mono ?_
          rintro e w10 ⟨rfl, hf10⟩
          go_wp2_with fail
          go_ret
          exact ⟨rfl, hF9.trans hf10⟩
      · have hce : combE op xs ys = (spErr ys).2 := by
          have h : combErr op xs ys = (spErr ys).2 := by unfold combErr; rw [if_neg hop, if_neg (by simp [he])]
          unfold combE; rw [h, if_pos hey]
        rw [hce] at hres1
        obtain rfl := hres1 hey
        rw [hce]
        clear hres1 hres2 hce
        go_wp2_with fail
        refine (rSpansErr_any (B := B) ys A2 c2 _ (H2.out.keep (hF7.2.mono hB)) (Nat.le_trans hB hF7.2.size) (by omega)).mono ?_
        rintro e w8 ⟨rfl, hf8⟩
        have hF8 := hF7.trans hf8
        go_wp2_with (go_at_call 10; refine (within_yes _ (by omega)).mono ?_; rintro e w' ⟨rfl, rfl⟩)
        all_goals
          go_ret
          exact ⟨rfl, hF8⟩
    · have hce : combE op xs ys = (spErr xs).2 := by
        have h : combErr op xs ys = (spErr xs).2 := by unfold combErr; rw [if_neg hop, if_pos he]
        unfold combE; rw [h, if_pos he]
      rw [hce] at hres1
      obtain rfl := hres1 he
      rw [hce]
      clear hres1 hres2 hce
      go_wp2_with (go_at_call 10; refine (within_yes _ (by omega)).mono ?_; rintro e w' ⟨rfl, rfl⟩)
      all_goals
        go_ret
        exact ⟨rfl, hF7⟩
end Go.Proofs.YtoelifebmhlokaaGreatDoor
