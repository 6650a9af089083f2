/- The contract on Combined. -/
import Derived.Test.YtoelifebmhlokaaGreatDoorSRComb
namespace Go.Proofs.YtoelifebmhlokaaGreatDoor
open Go.RowKit

theorem spFrom_ok (l : List Sp) : ∀ (n k : Nat), l.length - k = n → (spFrom l k).2 = 0 → ∀ i s, k ≤ i → l[i]? = some s → okB s = true := by
  intro n
  induction n with
  | zero =>
    intro k hn _ i s hi hs
    have := (List.getElem?_eq_some_iff.1 hs).1
    omega
  | succ n ih =>
    intro k hn h i s hi hs
    obtain ⟨t, ht⟩ : ∃ t, l[k]? = some t := ⟨_, List.getElem?_eq_getElem (by omega)⟩
    rw [spFrom_at ht] at h
    split at h
    · rename_i hok
      split at h
      · simp at h
      · rcases Nat.lt_or_ge k i with h1 | h1
        · exact ih (k + 1) (by omega) h i s h1 hs
        · obtain rfl : i = k := by omega
          rw [ht] at hs; injection hs with hs; subst hs; exact hok
    · simp at h
theorem spErr_ok {l : List Sp} (h : (spErr l).2 = 0) : l.length ≤ 40 ∧ ∀ s ∈ l, okB s = true := by
  unfold spErr at h
  split at h
  · simp at h
  · refine ⟨by omega, fun s hs => ?_⟩
    obtain ⟨i, hi, rfl⟩ := List.getElem_of_mem hs
    exact spFrom_ok l _ 0 rfl h i _ (by omega) (List.getElem?_eq_getElem hi)
def combErr (op : Int) (xs ys : List Sp) : Int := if op < 0 ∨ 3 ≤ op then 4 else if (spErr xs).2 ≠ 0 then (spErr xs).2 else (spErr ys).2
def combE (op : Int) (xs ys : List Sp) : Int := if combErr op xs ys ≠ 0 then combErr op xs ys else if 40 < (combineL op xs ys).length then 2 else 0
/-- What is handed back: nothing with an error, else what the operation makes. -/
def CombRes (w' : World) (base : Nat) (op : Int) (xs ys : List Sp) (v : Value) : Prop :=
  (combE op xs ys ≠ 0 → v = .slice none 0 0) ∧ (combE op xs ys = 0 → w'.ownsRow base 53 2 v (combineL op xs ys).length (spCells (combineL op xs ys)))
theorem CombRes.err {w' : World} {base : Nat} {op : Int} {xs ys : List Sp} (h : combE op xs ys ≠ 0) : CombRes w' base op xs ys (.slice none 0 0) := ⟨fun _ => rfl, fun h2 => absurd h2 h⟩
set_option maxRecDepth 20000 in
set_option maxHeartbeats 1000000 in
theorem Combined_any {B : Nat} (op : Int) (xs ys : List Sp) (A1 A2 : Option Addr) (c1 c2 : Nat) (w : World) (h1 : SpAt B w A1 xs) (h2 : SpAt B w A2 ys) (h10 : A1 = none → c1 = 0) (h20 : A2 = none → c2 = 0) (hB : B ≤ w.heap.size) (hm1 : xs.length ≤ 100) (hm2 : ys.length ≤ 100) :
    Calls Tryz.prog 9 #[.int .i64 op, .slice A1 xs.length c1, .slice A2 ys.length c2] w fun e w' => (∃ v, e = .returned (.tuple #[v, .int .i64 (combE op xs ys)]) ∧ CombRes w' w.heap.size op xs ys v) ∧ Fr w.heap.size w w' := by
  have hf := Fr.self w
  by_cases hop : op < 0 ∨ 3 ≤ op
  · have hv : combE op xs ys = 4 := by
      have h : combErr op xs ys = 4 := by unfold combErr; rw [if_pos hop]
      unfold combE; rw [h]; rfl
    have Hv := Lib.hid hv
    clear hv h1 h2
    rcases hop with hop | hop
    · go_enter Tryz.func9, Tryz.ntmps9
      go_wp2_with fail
      go_ret2
      exact ⟨⟨_, by rw [Hv.out]; rfl, CombRes.err (by rw [Hv.out]; decide)⟩, hf⟩
    · have hop2 : ¬ op < 0 := by omega
      go_enter Tryz.func9, Tryz.ntmps9
      go_wp2_with fail
      go_ret2
      exact ⟨⟨_, by rw [Hv.out]; rfl, CombRes.err (by rw [Hv.out]; decide)⟩, hf⟩
  · have hce : combErr op xs ys = if (spErr xs).2 ≠ 0 then (spErr xs).2 else (spErr ys).2 := by unfold combErr; rw [if_neg hop]
    have hop1 : ¬ op < 0 := by omega
    have hop2 : ¬ 3 ≤ op := by omega
    have hfa := hf.alloc (.cells #[.slice A1 xs.length c1, .slice A2 ys.length c2] 22)
    have hck1 := CheckSpans_any xs A1 c1 _ (h1.keep (hfa.2.mono hB)) (Nat.le_trans hB hfa.2.size) (by omega)
    have k1 : (w.alloc (.cells #[.slice A1 xs.length c1, .slice A2 ys.length c2] 22)).cell? ⟨w.heap.size, 1, none⟩ = some (.slice A2 ys.length c2) := cell_new w _ _ 1
    have H1 := Lib.hid h1; have H2 := Lib.hid h2; have Hck1 := Lib.hid hck1
    have hwl : w.heap.size < (w.alloc (.cells #[.slice A1 xs.length c1, .slice A2 ys.length c2] 22)).heap.size := by simp
    clear h1 h2 hck1 hop
    go_enter Tryz.func9, Tryz.ntmps9
    go_wp2_with fail
    refine wp_loop_rounds 3 ?_
    rw [rounds_succ]
    by_cases he1 : (spErr xs).2 = 0
    · obtain ⟨hl1, hok1⟩ := spErr_ok he1
      rw [if_neg (by simpa using he1)] at hce
      have Hce := Lib.hid hce; have Hok1 := Lib.hid hok1
      rw [he1] at Hck1
      clear hok1 he1 hce
      generalize (spErr xs).1 = i1 at *
      go_wp2_with fail
      refine (Hck1.out).mono ?_
      rintro e w1 ⟨rfl, hf1⟩
      have k2 : w1.cell? ⟨w.heap.size, 1, none⟩ = some (.slice A2 ys.length c2) := (hf1.cell (p := ⟨w.heap.size, 1, none⟩) hwl).trans k1
      have hf01 := hfa.trans hf1
      have hck2 := CheckSpans_any ys A2 c2 w1 (H2.out.keep (hf01.2.mono hB)) (Nat.le_trans hB hf01.2.size) (by omega)
      have Hck2 := Lib.hid hck2
      clear hck2
      go_wp2_with fail
      rw [rounds_succ]
      by_cases he2 : (spErr ys).2 = 0
      · obtain ⟨hl2, hok2⟩ := spErr_ok he2
        have hc0 : combErr op xs ys = 0 := by rw [Hce.out, he2]
        have hE : combE op xs ys = if 40 < (combineL op xs ys).length then 2 else 0 := by unfold combE; rw [if_neg (by simpa using hc0)]
        have HE := Lib.hid hE; have Hok2 := Lib.hid hok2
        rw [he2] at Hck2
        clear hok2 he2 hE hc0
        generalize (spErr ys).1 = i2 at *
        go_wp2_with fail
        refine (Hck2.out).mono ?_
        rintro e w2 ⟨rfl, hf2⟩
        have hf02 := hf01.trans hf2
        have hcb := combined_any op xs ys A1 A2 c1 c2 w2 (H1.out.keep (hf02.2.mono hB)) (H2.out.keep (hf02.2.mono hB)) h10 h20 (Nat.le_trans hB hf02.2.size) hm1 hm2 Hok1.out Hok2.out
        have Hcb := Lib.hid hcb
        clear hcb h10 h20
        go_wp2_with fail
        rw [rounds_succ]
        go_wp2_with fail
        refine (Hcb.out).mono ?_
        rintro e w3 ⟨⟨v3, rfl, hown3⟩, hf3⟩
        obtain ⟨p3, c3, rfl⟩ := own_len hown3
        have Hown3 := Lib.hid hown3
        clear hown3
        by_cases hbig : 40 < (combineL op xs ys).length
        · have hv : combE op xs ys = 2 := by rw [HE.out, if_pos hbig]
          have Hv := Lib.hid hv
          have hbI : (40 : Int) < (combineL op xs ys).length := by omega
          clear hv
          generalize (combineL op xs ys).length = n at *
          go_wp2_with fail
          go_ret2
          exact ⟨⟨_, by rw [Hv.out]; rfl, CombRes.err (by rw [Hv.out]; decide)⟩, hf02.trans hf3⟩
        · have hv : combE op xs ys = 0 := by rw [HE.out, if_neg hbig]
          have Hv := Lib.hid hv
          have hbI : ¬ (40 : Int) < (combineL op xs ys).length := by omega
          have Hr : Hid (CombRes w3 w.heap.size op xs ys (.slice p3 (combineL op xs ys).length c3)) := ⟨fun h => absurd hv h, fun _ => Hown3.out.base hf02.2.size⟩
          clear hv Hown3
          generalize (combineL op xs ys).length = n at *
          go_wp2_with fail
          go_ret2
          exact ⟨⟨_, by rw [Hv.out]; rfl, Hr.out⟩, hf02.trans hf3⟩
      · have hv : combE op xs ys = (spErr ys).2 := by
          have h : combErr op xs ys = (spErr ys).2 := Hce.out
          unfold combE; rw [h, if_pos he2]
        have hne : combE op xs ys ≠ 0 := by rw [hv]; exact he2
        have hb : ((spErr ys).2 != 0) = true := by simpa using he2
        have Hv := Lib.hid hv; have Hne := Lib.hid hne
        clear hv hne
        generalize (spErr ys).1 = i2 at *
        generalize (spErr ys).2 = e2 at *
        go_wp2_with fail
        refine (Hck2.out).mono ?_
        rintro e w2 ⟨rfl, hf2⟩
        go_wp2_with fail
        go_ret2
        exact ⟨⟨_, by rw [Hv.out]; rfl, CombRes.err Hne.out⟩, hf01.trans hf2⟩
    · have hv : combE op xs ys = (spErr xs).2 := by
        have h : combErr op xs ys = (spErr xs).2 := by rw [hce, if_pos he1]
        unfold combE; rw [h, if_pos he1]
      have hne : combE op xs ys ≠ 0 := by rw [hv]; exact he1
      have hb : ((spErr xs).2 != 0) = true := by simpa using he1
      have Hv := Lib.hid hv; have Hne := Lib.hid hne
      clear hv hne hce
      generalize (spErr xs).1 = i1 at *
      generalize (spErr xs).2 = e1 at *
      go_wp2_with fail
      refine (Hck1.out).mono ?_
      rintro e w1 ⟨rfl, hf1⟩
      go_wp2_with fail
      go_ret2
      exact ⟨⟨_, by rw [Hv.out]; rfl, CombRes.err Hne.out⟩, hfa.trans hf1⟩
end Go.Proofs.YtoelifebmhlokaaGreatDoor
