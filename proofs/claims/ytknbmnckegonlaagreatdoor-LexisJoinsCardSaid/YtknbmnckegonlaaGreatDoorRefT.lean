/- The contract on whether two tokens stand side by side, by the reference. The contract on the reference's joined text. -/
import Derived.Test.YtknbmnckegonlaaGreatDoorRefR
import Derived.Test.YtknbmnckegonlaaGreatDoorAgain
namespace Go.Proofs.YtknbmnckegonlaaGreatDoor
open Go.RowKit

theorem kind_six {lang : Int} {t : Tok} (h : tokErr lang t = 0) (hx : t.text ∈ openT ∨ t.text ∈ shutT) : t.kind = 6 := by
  obtain ⟨c, u, e, -, hk, -⟩ := right_whole h
  rw [List.append_nil, ← e] at hk
  have h0 : ∀ x ∈ openT ++ shutT, (pieceOf 0 x).kind = 6 ∧ (pieceOf 1 x).kind = 6 := by decide +kernel
  have h1 := h0 t.text (by simpa using hx)
  rcases (right_reads h).1 with rfl | rfl
  · rw [← hk]; exact h1.1
  · rw [← hk]; exact h1.2
theorem sum_two (a b : Tok) : (a.text ++ b.text).length ≤ ([a, b].map fun t => t.text.length).sum := by simp

theorem same_two (lang : Int) (x : List UInt8) (a b : Tok) (w3 : World) (D : Option Addr) (cb : Nat) (hD : outToks lang x = [] ∨ ∃ b off, D = some ⟨b, off, none⟩ ∧ b < w3.heap.size ∧ ∀ (j : Nat) (u : Value), (tokCells (outToks lang x))[j]? = some u → w3.cell? ⟨b, off + j, none⟩ = some u) (hol : (outToks lang x).length ≤ 100000) :
    ∀ (W : World) (g : Nat), (∀ (j : Nat) (u : Value), (tokCells [a, b])[j]? = some u → W.cell? ⟨g, j, none⟩ = some u) → g < W.heap.size → Fr w3.heap.size w3 W → Calls Tryz.prog 20 #[.slice D (outToks lang x).length cb, .slice (some ⟨g, 0, none⟩) 2 2] W fun e w' => e = .returned (.bool (sameToks (outToks lang x) [a, b])) ∧ Fr W.heap.size W w' := by
  intro W g hc hg hW
  refine sameTokens_any (.slice D (outToks lang x).length cb) (.slice (some ⟨g, 0, none⟩) 2 2) (outToks lang x) [a, b] W ?_ ?_ (by omega) (by simp)
  · refine ⟨D, cb, rfl, ?_⟩
    rcases hD with h | ⟨b, off, e, hb, hc⟩
    · exact .inl h
    · exact .inr ⟨b, off, e, by have := hW.2.size; omega, fun j u hu => (hW.cell (p := ⟨b, off + j, none⟩) hb).trans (hc j u hu)⟩
  · exact ⟨some ⟨g, 0, none⟩, 2, rfl, .inr ⟨g, 0, rfl, hg, fun j u hu => by rw [Nat.zero_add]; exact hc j u hu⟩⟩
theorem news_two (w : World) (a b : Tok) : ∀ (j : Nat) (u : Value), (tokCells [a, b])[j]? = some u → (w.alloc (Obj.cells #[.int .i64 a.kind, .string ⟨a.text.toArray⟩, .int .i64 a.pos, .int .i64 b.kind, .string ⟨b.text.toArray⟩, .int .i64 b.pos] 43)).drew.cell? ⟨w.heap.size, j, none⟩ = some u := by
  intro j u h
  have := cells_new w #[.int .i64 a.kind, .string ⟨a.text.toArray⟩, .int .i64 a.pos, .int .i64 b.kind, .string ⟨b.text.toArray⟩, .int .i64 b.pos] 43 j u h
  rw [add_at] at this
  exact this
theorem keep_two (w3 : World) (o : Obj) {r g h : Nat} {v0 v1 v2 v3 v4 v5 v6 v7 v8 : Value} (hr : r < w3.heap.size) (hg : g < w3.heap.size) (hh : h < w3.heap.size) (x3 : w3.cell? ⟨r, 3, none⟩ = some v0) (x1 : w3.cell? ⟨r, 1, none⟩ = some v1) (x0 : w3.cell? ⟨r, 0, none⟩ = some v2)
    (b0 : w3.cell? ⟨g, 0, none⟩ = some v3) (b1 : w3.cell? ⟨g, 1, none⟩ = some v4) (b2 : w3.cell? ⟨g, 2, none⟩ = some v5) (c0 : w3.cell? ⟨h, 0, none⟩ = some v6) (c1 : w3.cell? ⟨h, 1, none⟩ = some v7) (c2 : w3.cell? ⟨h, 2, none⟩ = some v8) :
    ∀ w4, Fr (w3.alloc o).drew.heap.size (w3.alloc o).drew w4 → w4.cell? ⟨r, 3, none⟩ = some v0 ∧ w4.cell? ⟨r, 1, none⟩ = some v1 ∧ w4.cell? ⟨r, 0, none⟩ = some v2 ∧ w4.cell? ⟨g, 0, none⟩ = some v3 ∧ w4.cell? ⟨g, 1, none⟩ = some v4 ∧ w4.cell? ⟨g, 2, none⟩ = some v5 ∧ w4.cell? ⟨h, 0, none⟩ = some v6 ∧ w4.cell? ⟨h, 1, none⟩ = some v7 ∧ w4.cell? ⟨h, 2, none⟩ = some v8 := by
  intro w4 hf
  have k : ∀ (p : Addr), p.block < w3.heap.size → w4.cell? p = w3.cell? p := fun p hp => (hf.cell (p := p) (by simp; omega)).trans (World.cell?_alloc_lt w3 _ p hp)
  exact ⟨(k ⟨r, 3, none⟩ hr).trans x3, (k ⟨r, 1, none⟩ hr).trans x1, (k ⟨r, 0, none⟩ hr).trans x0, (k ⟨g, 0, none⟩ hg).trans b0, (k ⟨g, 1, none⟩ hg).trans b1, (k ⟨g, 2, none⟩ hg).trans b2, (k ⟨h, 0, none⟩ hh).trans c0, (k ⟨h, 1, none⟩ hh).trans c1, (k ⟨h, 2, none⟩ hh).trans c2⟩

set_option maxRecDepth 100000 in
set_option maxHeartbeats 16000000 in
theorem beside_any (lang : Int) (a b : Tok) (ha : tokErr lang a = 0) (hb : tokErr lang b = 0) (w : World) (hsa : a.text.length ≤ 4000) (hsb : b.text.length ≤ 4000) :
    Calls Tryz.prog 63 #[.int .i64 lang, .agg #[.int .i64 a.kind, .string ⟨a.text.toArray⟩, .int .i64 a.pos], .agg #[.int .i64 b.kind, .string ⟨b.text.toArray⟩, .int .i64 b.pos]] w
      fun e w' => e = .returned (.bool (together lang a b)) ∧ Fr w.heap.size w w' := by
  have hf := Fr.self w
  have hka := fun h => kind_six ha (.inl h)
  have hkb := fun h => kind_six hb (.inr h)
  have htg : together lang a b = ((decide (a.text ∈ openT) || decide (b.text ∈ shutT)) && refReads lang (a.text ++ b.text) [a, b]) := by
    rw [refReads_eq (sum_two a b)]; rfl
  obtain ⟨ak, at_, ap⟩ := a
  obtain ⟨bk, bt, bp⟩ := b
  simp only at hka hkb htg hsa hsb ⊢
  have hso : ∀ (W : World) (n : Nat), W.heap.size = n → Strs (W.alloc (.cells (strCells openT).toArray 9)) n openT := by rintro W n rfl; exact strs_new W _ _ openT rfl
  have hss : ∀ (W : World) (n : Nat), W.heap.size = n → Strs (W.alloc (.cells (strCells shutT).toArray 9)) n shutT := by rintro W n rfl; exact strs_new W _ _ shutT rfl
  have Hso := Lib.hid hso; have Hss := Lib.hid hss
  have Hhto := Lib.hid (fun g cap w (h : Strs w g openT) => hasText_any openT g cap ⟨at_.toArray⟩ at_ rfl w h (by decide))
  have Hhts := Lib.hid (fun g cap w (h : Strs w g shutT) => hasText_any shutT g cap ⟨bt.toArray⟩ bt rfl w h (by decide))
  have Hre := Lib.hid (fun w => read_any lang (⟨at_.toArray⟩ ++ ⟨bt.toArray⟩) (at_ ++ bt) (by rw [ba_append]) w (by rw [ba_size, ba_append]; unfold maxLen; simp; omega))
  clear hso hss ha hb
  have h0 : Fr (w.heap.size + 2) ((w.alloc (Obj.cells #[.int .i64 ak, .string ⟨at_.toArray⟩, .int .i64 ap] 43)).alloc (Obj.cells #[.int .i64 bk, .string ⟨bt.toArray⟩, .int .i64 bp] 43)) ((w.alloc (Obj.cells #[.int .i64 ak, .string ⟨at_.toArray⟩, .int .i64 ap] 43)).alloc (Obj.cells #[.int .i64 bk, .string ⟨bt.toArray⟩, .int .i64 bp] 43)) := Fr.refl (by simp)
  have hA0 : ((w.alloc (Obj.cells #[.int .i64 ak, .string ⟨at_.toArray⟩, .int .i64 ap] 43)).alloc (Obj.cells #[.int .i64 bk, .string ⟨bt.toArray⟩, .int .i64 bp] 43)).heap[w.heap.size]? = some (Obj.cells #[.int .i64 ak, .string ⟨at_.toArray⟩, .int .i64 ap] 43) := (Below.heap_alloc _ _ _ (by simp)).trans (heap_alloc_new w _)
  have hB0 : ((w.alloc (Obj.cells #[.int .i64 ak, .string ⟨at_.toArray⟩, .int .i64 ap] 43)).alloc (Obj.cells #[.int .i64 bk, .string ⟨bt.toArray⟩, .int .i64 bp] 43)).heap[w.heap.size + 1]? = some (Obj.cells #[.int .i64 bk, .string ⟨bt.toArray⟩, .int .i64 bp] 43) := heap2 w _ _
  have HA0 := Lib.hid hA0; have HB0 := Lib.hid hB0
  clear hA0 hB0
  rcases ho : decide (at_ ∈ openT) with _ | _
  · rcases hs : decide (bt ∈ shutT) with _ | _
    · skip
      have hv : together lang ⟨ak, at_, ap⟩ ⟨bk, bt, bp⟩ = false := by rw [htg, ho, hs]; rfl
      rw [ho] at Hhto; rw [hs] at Hhts
      have Hv := Lib.hid hv
      clear htg ho hs hv hka hkb
      by_cases h1 : ak = 6
      · skip
        by_cases h2 : bk = 6
        · skip
          have g1 : (ak == 6) = true := by simp [h1]
          have g2 : (bk == 6) = true := by simp [h2]
          clear h1 h2
          go_enter Tryz.func63, Tryz.ntmps63
          go_wp2_with fail
          refine (Hhto.out _ _ _ (Hso.out _ _ (by simp))).mono ?_
          rintro e w' ⟨rfl, rfl⟩
          go_wp2_with fail
          refine (Hhts.out _ _ _ (Hss.out _ _ (by simp))).mono ?_
          rintro e w' ⟨rfl, rfl⟩
          go_wp2_with fail
          go_ret
          exact ⟨by rw [Hv.out]; rfl, (((hf.alloc _).alloc _).alloc _).alloc _⟩
        · skip
          have g1 : (ak == 6) = true := by simp [h1]
          have g2 : (bk == 6) = false := by simp [h2]
          clear h1 h2
          go_enter Tryz.func63, Tryz.ntmps63
          go_wp2_with fail
          refine (Hhto.out _ _ _ (Hso.out _ _ (by simp))).mono ?_
          rintro e w' ⟨rfl, rfl⟩
          go_wp2_with fail
          go_ret
          exact ⟨by rw [Hv.out]; rfl, ((hf.alloc _).alloc _).alloc _⟩
      · skip
        by_cases h2 : bk = 6
        · skip
          have g1 : (ak == 6) = false := by simp [h1]
          have g2 : (bk == 6) = true := by simp [h2]
          clear h1 h2
          go_enter Tryz.func63, Tryz.ntmps63
          go_wp2_with fail
          refine (Hhts.out _ _ _ (Hss.out _ _ (by simp))).mono ?_
          rintro e w' ⟨rfl, rfl⟩
          go_wp2_with fail
          go_ret
          exact ⟨by rw [Hv.out]; rfl, ((hf.alloc _).alloc _).alloc _⟩
        · skip
          have g1 : (ak == 6) = false := by simp [h1]
          have g2 : (bk == 6) = false := by simp [h2]
          clear h1 h2
          go_enter Tryz.func63, Tryz.ntmps63
          go_wp2_with fail
          go_ret
          exact ⟨by rw [Hv.out]; rfl, (hf.alloc _).alloc _⟩
    · skip
      have hv : together lang ⟨ak, at_, ap⟩ ⟨bk, bt, bp⟩ = refReads lang (at_ ++ bt) [⟨ak, at_, ap⟩, ⟨bk, bt, bp⟩] := by rw [htg, ho, hs]; simp
      rw [ho] at Hhto; rw [hs] at Hhts
      have h2 : bk = 6 := hkb (of_decide_eq_true hs)
      have Hv := Lib.hid hv
      clear htg ho hs hv hka hkb
      by_cases h1 : ak = 6
      · skip
        have g1 : (ak == 6) = true := by simp [h1]
        have g2 : (bk == 6) = true := by simp [h2]
        clear h1 h2
        go_enter Tryz.func63, Tryz.ntmps63
        go_wp2_with fail
        refine (Hhto.out _ _ _ (Hso.out _ _ (by simp))).mono ?_
        rintro e w' ⟨rfl, rfl⟩
        go_wp2_with fail
        refine (Hhts.out _ _ _ (Hss.out _ _ (by simp))).mono ?_
        rintro e w' ⟨rfl, rfl⟩
        go_wp2_with fail
        refine (Hre.out _).mono ?_
        rintro e w3 ⟨r, vt, vc, rfl, hr, hx, hf3, hot, hoc⟩
        have hfw : Fr (w.heap.size + 2) ((w.alloc (Obj.cells #[.int .i64 ak, .string ⟨at_.toArray⟩, .int .i64 ap] 43)).alloc (Obj.cells #[.int .i64 bk, .string ⟨bt.toArray⟩, .int .i64 bp] 43)) w3 := ((h0.alloc _).alloc _).trans hf3
        have hfa : Fr w.heap.size w w3 := ((((hf.alloc _).alloc _).alloc _).alloc _).trans hf3
        have hb3 := (hfw.2.block w.heap.size (by omega)).trans HA0.out
        have hc3 := (hfw.2.block (w.heap.size + 1) (by omega)).trans HB0.out
        clear hfw hf3
        have hrl := block_lt hx
        have hol := outToks_length lang (at_ ++ bt)
        have hll : (at_ ++ bt).length ≤ 8000 := by rw [List.length_append]; omega
        obtain ⟨D, cb, e2, hD⟩ := tokRow_own hot rfl
        obtain ⟨E, cc, e3, hE⟩ := comRow_own hoc rfl
        subst e2; subst e3
        have x0 : w3.cell? ⟨r, 0, none⟩ = some (.slice D (outToks lang (at_ ++ bt)).length cb) := by rw [Lib.cell_of_heap hx]; rfl
        have x1 : w3.cell? ⟨r, 1, none⟩ = some (.slice E (outComs lang (at_ ++ bt)).length cc) := by rw [Lib.cell_of_heap hx]; rfl
        have x3 : w3.cell? ⟨r, 3, none⟩ = some (.int .i64 (readErr lang (at_ ++ bt)).2) := by rw [Lib.cell_of_heap hx]; rfl
        obtain ⟨b0, b1, b2⟩ := box_cells hb3
        obtain ⟨c0, c1, c2⟩ := box_cells hc3
        by_cases he : (readErr lang (at_ ++ bt)).2 = 0
        · have hbe : ((readErr lang (at_ ++ bt)).2 == 0) = true := by simp [he]
          cases hcl : outComs lang (at_ ++ bt) with
          | cons q rr =>
            have hv : together lang ⟨ak, at_, ap⟩ ⟨bk, bt, bp⟩ = false := by
              rw [Hv.out]
              exact decide_eq_false (fun h => by rw [hcl] at h; exact absurd h.2.1 (by simp))
            have hln : (((outComs lang (at_ ++ bt)).length : Int) == 0) = false := by rw [hcl]; simp; omega
            have Hv2 := Lib.hid hv
            clear hv he hx hb3 hc3 hot hoc hD hE hcl
            go_wp2_with fail
            go_quiet (fail)
            go_wp2_with fail
            go_ret
            exact ⟨by rw [Hv2.out]; rfl, hfa.drewN _⟩
          | nil =>
            have hv : together lang ⟨ak, at_, ap⟩ ⟨bk, bt, bp⟩ = sameToks (outToks lang (at_ ++ bt)) [⟨ak, at_, ap⟩, ⟨bk, bt, bp⟩] := by
              rw [Hv.out]
              unfold refReads sameToks; rw [hcl, he, Bool.eq_iff_iff]; simp
            have Hv2 := Lib.hid hv
            have hln : (outComs lang (at_ ++ bt)).length = 0 := by rw [hcl]; rfl
            rw [hln] at x1
            have Hst := Lib.hid (same_two lang (at_ ++ bt) ⟨ak, at_, ap⟩ ⟨bk, bt, bp⟩ w3 D cb hD (by omega))
            have Hnews := Lib.hid (news_two w3 ⟨ak, at_, ap⟩ ⟨bk, bt, bp⟩)
            have hbl := block_lt hb3
            have hcl2 := block_lt hc3
            have HK := Lib.hid (keep_two w3 ((Obj.cells #[.int .i64 ak, .string ⟨at_.toArray⟩, .int .i64 ap, .int .i64 bk, .string ⟨bt.toArray⟩, .int .i64 bp] 43)) hrl hbl hcl2 x3 x1 x0 b0 b1 b2 c0 c1 c2)
            clear hv he hx hot hoc hD hE hcl hb3 hc3
            have n0 := World.new_ne w3 _ x0
            have n1 := World.new_ne w3 _ x1
            have n3 := World.new_ne w3 _ x3
            have m0 := World.new_ne w3 _ b0
            have m1 := World.new_ne w3 _ b1
            have m2 := World.new_ne w3 _ b2
            have o0 := World.new_ne w3 _ c0
            have o1 := World.new_ne w3 _ c1
            have o2 := World.new_ne w3 _ c2
            go_wp2_with fail
            go_region_held3 (fun w' => w'.cell? ⟨r, 3, none⟩ = some (.int .i64 (readErr lang (at_ ++ bt)).2) ∧ w'.cell? ⟨r, 1, none⟩ = some (.slice E 0 cc) ∧ w'.cell? ⟨r, 0, none⟩ = some (.slice D (outToks lang (at_ ++ bt)).length cb) ∧
                w'.cell? ⟨w.heap.size, 0, none⟩ = some (.int .i64 ak) ∧ w'.cell? ⟨w.heap.size, 1, none⟩ = some (.string ⟨at_.toArray⟩) ∧ w'.cell? ⟨w.heap.size, 2, none⟩ = some (.int .i64 ap) ∧
                w'.cell? ⟨w.heap.size + 1, 0, none⟩ = some (.int .i64 bk) ∧ w'.cell? ⟨w.heap.size + 1, 1, none⟩ = some (.string ⟨bt.toArray⟩) ∧ w'.cell? ⟨w.heap.size + 1, 2, none⟩ = some (.int .i64 bp))
              (first | (exact HK.out _ hf4) | go_keep)
              (first | (go_at_call 20; refine (Hst.out _ _ Hnews.out (by simp) (((Fr.self w3).alloc _).drew)).mono ?_; rintro e w4 ⟨rfl, hf4⟩))
            go_wp2_with fail
            go_ret
            exact ⟨by rw [Hv2.out]; rfl, ((hfa.alloc _).drew).trans hf4⟩
        · have hbe : ((readErr lang (at_ ++ bt)).2 == 0) = false := by simp [he]
          have hv : together lang ⟨ak, at_, ap⟩ ⟨bk, bt, bp⟩ = false := by
            rw [Hv.out]
            exact decide_eq_false (fun h => he h.1)
          have Hv2 := Lib.hid hv
          clear hv he hx hb3 hc3 hot hoc hD hE
          go_wp2_with fail
          go_quiet (fail)
          go_wp2_with fail
          go_ret
          exact ⟨by rw [Hv2.out]; rfl, hfa.drewN _⟩
      · skip
        have g1 : (ak == 6) = false := by simp [h1]
        have g2 : (bk == 6) = true := by simp [h2]
        clear h1 h2
        go_enter Tryz.func63, Tryz.ntmps63
        go_wp2_with fail
        refine (Hhts.out _ _ _ (Hss.out _ _ (by simp))).mono ?_
        rintro e w' ⟨rfl, rfl⟩
        go_wp2_with fail
        refine (Hre.out _).mono ?_
        rintro e w3 ⟨r, vt, vc, rfl, hr, hx, hf3, hot, hoc⟩
        have hfw : Fr (w.heap.size + 2) ((w.alloc (Obj.cells #[.int .i64 ak, .string ⟨at_.toArray⟩, .int .i64 ap] 43)).alloc (Obj.cells #[.int .i64 bk, .string ⟨bt.toArray⟩, .int .i64 bp] 43)) w3 := (h0.alloc _).trans hf3
        have hfa : Fr w.heap.size w w3 := (((hf.alloc _).alloc _).alloc _).trans hf3
        have hb3 := (hfw.2.block w.heap.size (by omega)).trans HA0.out
        have hc3 := (hfw.2.block (w.heap.size + 1) (by omega)).trans HB0.out
        clear hfw hf3
        have hrl := block_lt hx
        have hol := outToks_length lang (at_ ++ bt)
        have hll : (at_ ++ bt).length ≤ 8000 := by rw [List.length_append]; omega
        obtain ⟨D, cb, e2, hD⟩ := tokRow_own hot rfl
        obtain ⟨E, cc, e3, hE⟩ := comRow_own hoc rfl
        subst e2; subst e3
        have x0 : w3.cell? ⟨r, 0, none⟩ = some (.slice D (outToks lang (at_ ++ bt)).length cb) := by rw [Lib.cell_of_heap hx]; rfl
        have x1 : w3.cell? ⟨r, 1, none⟩ = some (.slice E (outComs lang (at_ ++ bt)).length cc) := by rw [Lib.cell_of_heap hx]; rfl
        have x3 : w3.cell? ⟨r, 3, none⟩ = some (.int .i64 (readErr lang (at_ ++ bt)).2) := by rw [Lib.cell_of_heap hx]; rfl
        obtain ⟨b0, b1, b2⟩ := box_cells hb3
        obtain ⟨c0, c1, c2⟩ := box_cells hc3
        by_cases he : (readErr lang (at_ ++ bt)).2 = 0
        · have hbe : ((readErr lang (at_ ++ bt)).2 == 0) = true := by simp [he]
          cases hcl : outComs lang (at_ ++ bt) with
          | cons q rr =>
            have hv : together lang ⟨ak, at_, ap⟩ ⟨bk, bt, bp⟩ = false := by
              rw [Hv.out]
              exact decide_eq_false (fun h => by rw [hcl] at h; exact absurd h.2.1 (by simp))
            have hln : (((outComs lang (at_ ++ bt)).length : Int) == 0) = false := by rw [hcl]; simp; omega
            have Hv2 := Lib.hid hv
            clear hv he hx hb3 hc3 hot hoc hD hE hcl
            go_wp2_with fail
            go_quiet (fail)
            go_wp2_with fail
            go_ret
            exact ⟨by rw [Hv2.out]; rfl, hfa.drewN _⟩
          | nil =>
            have hv : together lang ⟨ak, at_, ap⟩ ⟨bk, bt, bp⟩ = sameToks (outToks lang (at_ ++ bt)) [⟨ak, at_, ap⟩, ⟨bk, bt, bp⟩] := by
              rw [Hv.out]
              unfold refReads sameToks; rw [hcl, he, Bool.eq_iff_iff]; simp
            have Hv2 := Lib.hid hv
            have hln : (outComs lang (at_ ++ bt)).length = 0 := by rw [hcl]; rfl
            rw [hln] at x1
            have Hst := Lib.hid (same_two lang (at_ ++ bt) ⟨ak, at_, ap⟩ ⟨bk, bt, bp⟩ w3 D cb hD (by omega))
            have Hnews := Lib.hid (news_two w3 ⟨ak, at_, ap⟩ ⟨bk, bt, bp⟩)
            have hbl := block_lt hb3
            have hcl2 := block_lt hc3
            have HK := Lib.hid (keep_two w3 ((Obj.cells #[.int .i64 ak, .string ⟨at_.toArray⟩, .int .i64 ap, .int .i64 bk, .string ⟨bt.toArray⟩, .int .i64 bp] 43)) hrl hbl hcl2 x3 x1 x0 b0 b1 b2 c0 c1 c2)
            clear hv he hx hot hoc hD hE hcl hb3 hc3
            have n0 := World.new_ne w3 _ x0
            have n1 := World.new_ne w3 _ x1
            have n3 := World.new_ne w3 _ x3
            have m0 := World.new_ne w3 _ b0
            have m1 := World.new_ne w3 _ b1
            have m2 := World.new_ne w3 _ b2
            have o0 := World.new_ne w3 _ c0
            have o1 := World.new_ne w3 _ c1
            have o2 := World.new_ne w3 _ c2
            go_wp2_with fail
            go_region_held3 (fun w' => w'.cell? ⟨r, 3, none⟩ = some (.int .i64 (readErr lang (at_ ++ bt)).2) ∧ w'.cell? ⟨r, 1, none⟩ = some (.slice E 0 cc) ∧ w'.cell? ⟨r, 0, none⟩ = some (.slice D (outToks lang (at_ ++ bt)).length cb) ∧
                w'.cell? ⟨w.heap.size, 0, none⟩ = some (.int .i64 ak) ∧ w'.cell? ⟨w.heap.size, 1, none⟩ = some (.string ⟨at_.toArray⟩) ∧ w'.cell? ⟨w.heap.size, 2, none⟩ = some (.int .i64 ap) ∧
                w'.cell? ⟨w.heap.size + 1, 0, none⟩ = some (.int .i64 bk) ∧ w'.cell? ⟨w.heap.size + 1, 1, none⟩ = some (.string ⟨bt.toArray⟩) ∧ w'.cell? ⟨w.heap.size + 1, 2, none⟩ = some (.int .i64 bp))
              (first | (exact HK.out _ hf4) | go_keep)
              (first | (go_at_call 20; refine (Hst.out _ _ Hnews.out (by simp) (((Fr.self w3).alloc _).drew)).mono ?_; rintro e w4 ⟨rfl, hf4⟩))
            go_wp2_with fail
            go_ret
            exact ⟨by rw [Hv2.out]; rfl, ((hfa.alloc _).drew).trans hf4⟩
        · have hbe : ((readErr lang (at_ ++ bt)).2 == 0) = false := by simp [he]
          have hv : together lang ⟨ak, at_, ap⟩ ⟨bk, bt, bp⟩ = false := by
            rw [Hv.out]
            exact decide_eq_false (fun h => he h.1)
          have Hv2 := Lib.hid hv
          clear hv he hx hb3 hc3 hot hoc hD hE
          go_wp2_with fail
          go_quiet (fail)
          go_wp2_with fail
          go_ret
          exact ⟨by rw [Hv2.out]; rfl, hfa.drewN _⟩
  · rcases hs : decide (bt ∈ shutT) with _ | _
    · skip
      have hv : together lang ⟨ak, at_, ap⟩ ⟨bk, bt, bp⟩ = refReads lang (at_ ++ bt) [⟨ak, at_, ap⟩, ⟨bk, bt, bp⟩] := by rw [htg, ho, hs]; simp
      rw [ho] at Hhto; rw [hs] at Hhts
      have h1 : ak = 6 := hka (of_decide_eq_true ho)
      have Hv := Lib.hid hv
      clear htg ho hs hv hka hkb
      by_cases h2 : bk = 6
      · skip
        have g1 : (ak == 6) = true := by simp [h1]
        have g2 : (bk == 6) = true := by simp [h2]
        clear h1 h2
        go_enter Tryz.func63, Tryz.ntmps63
        go_wp2_with fail
        refine (Hhto.out _ _ _ (Hso.out _ _ (by simp))).mono ?_
        rintro e w' ⟨rfl, rfl⟩
        go_wp2_with fail
        refine (Hhts.out _ _ _ (Hss.out _ _ (by simp))).mono ?_
        rintro e w' ⟨rfl, rfl⟩
        go_wp2_with fail
        refine (Hre.out _).mono ?_
        rintro e w3 ⟨r, vt, vc, rfl, hr, hx, hf3, hot, hoc⟩
        have hfw : Fr (w.heap.size + 2) ((w.alloc (Obj.cells #[.int .i64 ak, .string ⟨at_.toArray⟩, .int .i64 ap] 43)).alloc (Obj.cells #[.int .i64 bk, .string ⟨bt.toArray⟩, .int .i64 bp] 43)) w3 := ((h0.alloc _).alloc _).trans hf3
        have hfa : Fr w.heap.size w w3 := ((((hf.alloc _).alloc _).alloc _).alloc _).trans hf3
        have hb3 := (hfw.2.block w.heap.size (by omega)).trans HA0.out
        have hc3 := (hfw.2.block (w.heap.size + 1) (by omega)).trans HB0.out
        clear hfw hf3
        have hrl := block_lt hx
        have hol := outToks_length lang (at_ ++ bt)
        have hll : (at_ ++ bt).length ≤ 8000 := by rw [List.length_append]; omega
        obtain ⟨D, cb, e2, hD⟩ := tokRow_own hot rfl
        obtain ⟨E, cc, e3, hE⟩ := comRow_own hoc rfl
        subst e2; subst e3
        have x0 : w3.cell? ⟨r, 0, none⟩ = some (.slice D (outToks lang (at_ ++ bt)).length cb) := by rw [Lib.cell_of_heap hx]; rfl
        have x1 : w3.cell? ⟨r, 1, none⟩ = some (.slice E (outComs lang (at_ ++ bt)).length cc) := by rw [Lib.cell_of_heap hx]; rfl
        have x3 : w3.cell? ⟨r, 3, none⟩ = some (.int .i64 (readErr lang (at_ ++ bt)).2) := by rw [Lib.cell_of_heap hx]; rfl
        obtain ⟨b0, b1, b2⟩ := box_cells hb3
        obtain ⟨c0, c1, c2⟩ := box_cells hc3
        by_cases he : (readErr lang (at_ ++ bt)).2 = 0
        · have hbe : ((readErr lang (at_ ++ bt)).2 == 0) = true := by simp [he]
          cases hcl : outComs lang (at_ ++ bt) with
          | cons q rr =>
            have hv : together lang ⟨ak, at_, ap⟩ ⟨bk, bt, bp⟩ = false := by
              rw [Hv.out]
              exact decide_eq_false (fun h => by rw [hcl] at h; exact absurd h.2.1 (by simp))
            have hln : (((outComs lang (at_ ++ bt)).length : Int) == 0) = false := by rw [hcl]; simp; omega
            have Hv2 := Lib.hid hv
            clear hv he hx hb3 hc3 hot hoc hD hE hcl
            go_wp2_with fail
            go_quiet (fail)
            go_wp2_with fail
            go_ret
            exact ⟨by rw [Hv2.out]; rfl, hfa.drewN _⟩
          | nil =>
            have hv : together lang ⟨ak, at_, ap⟩ ⟨bk, bt, bp⟩ = sameToks (outToks lang (at_ ++ bt)) [⟨ak, at_, ap⟩, ⟨bk, bt, bp⟩] := by
              rw [Hv.out]
              unfold refReads sameToks; rw [hcl, he, Bool.eq_iff_iff]; simp
            have Hv2 := Lib.hid hv
            have hln : (outComs lang (at_ ++ bt)).length = 0 := by rw [hcl]; rfl
            rw [hln] at x1
            have Hst := Lib.hid (same_two lang (at_ ++ bt) ⟨ak, at_, ap⟩ ⟨bk, bt, bp⟩ w3 D cb hD (by omega))
            have Hnews := Lib.hid (news_two w3 ⟨ak, at_, ap⟩ ⟨bk, bt, bp⟩)
            have hbl := block_lt hb3
            have hcl2 := block_lt hc3
            have HK := Lib.hid (keep_two w3 ((Obj.cells #[.int .i64 ak, .string ⟨at_.toArray⟩, .int .i64 ap, .int .i64 bk, .string ⟨bt.toArray⟩, .int .i64 bp] 43)) hrl hbl hcl2 x3 x1 x0 b0 b1 b2 c0 c1 c2)
            clear hv he hx hot hoc hD hE hcl hb3 hc3
            have n0 := World.new_ne w3 _ x0
            have n1 := World.new_ne w3 _ x1
            have n3 := World.new_ne w3 _ x3
            have m0 := World.new_ne w3 _ b0
            have m1 := World.new_ne w3 _ b1
            have m2 := World.new_ne w3 _ b2
            have o0 := World.new_ne w3 _ c0
            have o1 := World.new_ne w3 _ c1
            have o2 := World.new_ne w3 _ c2
            go_wp2_with fail
            go_region_held3 (fun w' => w'.cell? ⟨r, 3, none⟩ = some (.int .i64 (readErr lang (at_ ++ bt)).2) ∧ w'.cell? ⟨r, 1, none⟩ = some (.slice E 0 cc) ∧ w'.cell? ⟨r, 0, none⟩ = some (.slice D (outToks lang (at_ ++ bt)).length cb) ∧
                w'.cell? ⟨w.heap.size, 0, none⟩ = some (.int .i64 ak) ∧ w'.cell? ⟨w.heap.size, 1, none⟩ = some (.string ⟨at_.toArray⟩) ∧ w'.cell? ⟨w.heap.size, 2, none⟩ = some (.int .i64 ap) ∧
                w'.cell? ⟨w.heap.size + 1, 0, none⟩ = some (.int .i64 bk) ∧ w'.cell? ⟨w.heap.size + 1, 1, none⟩ = some (.string ⟨bt.toArray⟩) ∧ w'.cell? ⟨w.heap.size + 1, 2, none⟩ = some (.int .i64 bp))
              (first | (exact HK.out _ hf4) | go_keep)
              (first | (go_at_call 20; refine (Hst.out _ _ Hnews.out (by simp) (((Fr.self w3).alloc _).drew)).mono ?_; rintro e w4 ⟨rfl, hf4⟩))
            go_wp2_with fail
            go_ret
            exact ⟨by rw [Hv2.out]; rfl, ((hfa.alloc _).drew).trans hf4⟩
        · have hbe : ((readErr lang (at_ ++ bt)).2 == 0) = false := by simp [he]
          have hv : together lang ⟨ak, at_, ap⟩ ⟨bk, bt, bp⟩ = false := by
            rw [Hv.out]
            exact decide_eq_false (fun h => he h.1)
          have Hv2 := Lib.hid hv
          clear hv he hx hb3 hc3 hot hoc hD hE
          go_wp2_with fail
          go_quiet (fail)
          go_wp2_with fail
          go_ret
          exact ⟨by rw [Hv2.out]; rfl, hfa.drewN _⟩
      · skip
        have g1 : (ak == 6) = true := by simp [h1]
        have g2 : (bk == 6) = false := by simp [h2]
        clear h1 h2
        go_enter Tryz.func63, Tryz.ntmps63
        go_wp2_with fail
        refine (Hhto.out _ _ _ (Hso.out _ _ (by simp))).mono ?_
        rintro e w' ⟨rfl, rfl⟩
        go_wp2_with fail
        refine (Hre.out _).mono ?_
        rintro e w3 ⟨r, vt, vc, rfl, hr, hx, hf3, hot, hoc⟩
        have hfw : Fr (w.heap.size + 2) ((w.alloc (Obj.cells #[.int .i64 ak, .string ⟨at_.toArray⟩, .int .i64 ap] 43)).alloc (Obj.cells #[.int .i64 bk, .string ⟨bt.toArray⟩, .int .i64 bp] 43)) w3 := (h0.alloc _).trans hf3
        have hfa : Fr w.heap.size w w3 := (((hf.alloc _).alloc _).alloc _).trans hf3
        have hb3 := (hfw.2.block w.heap.size (by omega)).trans HA0.out
        have hc3 := (hfw.2.block (w.heap.size + 1) (by omega)).trans HB0.out
        clear hfw hf3
        have hrl := block_lt hx
        have hol := outToks_length lang (at_ ++ bt)
        have hll : (at_ ++ bt).length ≤ 8000 := by rw [List.length_append]; omega
        obtain ⟨D, cb, e2, hD⟩ := tokRow_own hot rfl
        obtain ⟨E, cc, e3, hE⟩ := comRow_own hoc rfl
        subst e2; subst e3
        have x0 : w3.cell? ⟨r, 0, none⟩ = some (.slice D (outToks lang (at_ ++ bt)).length cb) := by rw [Lib.cell_of_heap hx]; rfl
        have x1 : w3.cell? ⟨r, 1, none⟩ = some (.slice E (outComs lang (at_ ++ bt)).length cc) := by rw [Lib.cell_of_heap hx]; rfl
        have x3 : w3.cell? ⟨r, 3, none⟩ = some (.int .i64 (readErr lang (at_ ++ bt)).2) := by rw [Lib.cell_of_heap hx]; rfl
        obtain ⟨b0, b1, b2⟩ := box_cells hb3
        obtain ⟨c0, c1, c2⟩ := box_cells hc3
        by_cases he : (readErr lang (at_ ++ bt)).2 = 0
        · have hbe : ((readErr lang (at_ ++ bt)).2 == 0) = true := by simp [he]
          cases hcl : outComs lang (at_ ++ bt) with
          | cons q rr =>
            have hv : together lang ⟨ak, at_, ap⟩ ⟨bk, bt, bp⟩ = false := by
              rw [Hv.out]
              exact decide_eq_false (fun h => by rw [hcl] at h; exact absurd h.2.1 (by simp))
            have hln : (((outComs lang (at_ ++ bt)).length : Int) == 0) = false := by rw [hcl]; simp; omega
            have Hv2 := Lib.hid hv
            clear hv he hx hb3 hc3 hot hoc hD hE hcl
            go_wp2_with fail
            go_quiet (fail)
            go_wp2_with fail
            go_ret
            exact ⟨by rw [Hv2.out]; rfl, hfa.drewN _⟩
          | nil =>
            have hv : together lang ⟨ak, at_, ap⟩ ⟨bk, bt, bp⟩ = sameToks (outToks lang (at_ ++ bt)) [⟨ak, at_, ap⟩, ⟨bk, bt, bp⟩] := by
              rw [Hv.out]
              unfold refReads sameToks; rw [hcl, he, Bool.eq_iff_iff]; simp
            have Hv2 := Lib.hid hv
            have hln : (outComs lang (at_ ++ bt)).length = 0 := by rw [hcl]; rfl
            rw [hln] at x1
            have Hst := Lib.hid (same_two lang (at_ ++ bt) ⟨ak, at_, ap⟩ ⟨bk, bt, bp⟩ w3 D cb hD (by omega))
            have Hnews := Lib.hid (news_two w3 ⟨ak, at_, ap⟩ ⟨bk, bt, bp⟩)
            have hbl := block_lt hb3
            have hcl2 := block_lt hc3
            have HK := Lib.hid (keep_two w3 ((Obj.cells #[.int .i64 ak, .string ⟨at_.toArray⟩, .int .i64 ap, .int .i64 bk, .string ⟨bt.toArray⟩, .int .i64 bp] 43)) hrl hbl hcl2 x3 x1 x0 b0 b1 b2 c0 c1 c2)
            clear hv he hx hot hoc hD hE hcl hb3 hc3
            have n0 := World.new_ne w3 _ x0
            have n1 := World.new_ne w3 _ x1
            have n3 := World.new_ne w3 _ x3
            have m0 := World.new_ne w3 _ b0
            have m1 := World.new_ne w3 _ b1
            have m2 := World.new_ne w3 _ b2
            have o0 := World.new_ne w3 _ c0
            have o1 := World.new_ne w3 _ c1
            have o2 := World.new_ne w3 _ c2
            go_wp2_with fail
            go_region_held3 (fun w' => w'.cell? ⟨r, 3, none⟩ = some (.int .i64 (readErr lang (at_ ++ bt)).2) ∧ w'.cell? ⟨r, 1, none⟩ = some (.slice E 0 cc) ∧ w'.cell? ⟨r, 0, none⟩ = some (.slice D (outToks lang (at_ ++ bt)).length cb) ∧
                w'.cell? ⟨w.heap.size, 0, none⟩ = some (.int .i64 ak) ∧ w'.cell? ⟨w.heap.size, 1, none⟩ = some (.string ⟨at_.toArray⟩) ∧ w'.cell? ⟨w.heap.size, 2, none⟩ = some (.int .i64 ap) ∧
                w'.cell? ⟨w.heap.size + 1, 0, none⟩ = some (.int .i64 bk) ∧ w'.cell? ⟨w.heap.size + 1, 1, none⟩ = some (.string ⟨bt.toArray⟩) ∧ w'.cell? ⟨w.heap.size + 1, 2, none⟩ = some (.int .i64 bp))
              (first | (exact HK.out _ hf4) | go_keep)
              (first | (go_at_call 20; refine (Hst.out _ _ Hnews.out (by simp) (((Fr.self w3).alloc _).drew)).mono ?_; rintro e w4 ⟨rfl, hf4⟩))
            go_wp2_with fail
            go_ret
            exact ⟨by rw [Hv2.out]; rfl, ((hfa.alloc _).drew).trans hf4⟩
        · have hbe : ((readErr lang (at_ ++ bt)).2 == 0) = false := by simp [he]
          have hv : together lang ⟨ak, at_, ap⟩ ⟨bk, bt, bp⟩ = false := by
            rw [Hv.out]
            exact decide_eq_false (fun h => he h.1)
          have Hv2 := Lib.hid hv
          clear hv he hx hb3 hc3 hot hoc hD hE
          go_wp2_with fail
          go_quiet (fail)
          go_wp2_with fail
          go_ret
          exact ⟨by rw [Hv2.out]; rfl, hfa.drewN _⟩
    · skip
      have hv : together lang ⟨ak, at_, ap⟩ ⟨bk, bt, bp⟩ = refReads lang (at_ ++ bt) [⟨ak, at_, ap⟩, ⟨bk, bt, bp⟩] := by rw [htg, ho, hs]; simp
      rw [ho] at Hhto; rw [hs] at Hhts
      have h1 : ak = 6 := hka (of_decide_eq_true ho)
      have h2 : bk = 6 := hkb (of_decide_eq_true hs)
      have Hv := Lib.hid hv
      clear htg ho hs hv hka hkb
      have g1 : (ak == 6) = true := by simp [h1]
      have g2 : (bk == 6) = true := by simp [h2]
      clear h1 h2
      go_enter Tryz.func63, Tryz.ntmps63
      go_wp2_with fail
      refine (Hhto.out _ _ _ (Hso.out _ _ (by simp))).mono ?_
      rintro e w' ⟨rfl, rfl⟩
      go_wp2_with fail
      refine (Hhts.out _ _ _ (Hss.out _ _ (by simp))).mono ?_
      rintro e w' ⟨rfl, rfl⟩
      go_wp2_with fail
      refine (Hre.out _).mono ?_
      rintro e w3 ⟨r, vt, vc, rfl, hr, hx, hf3, hot, hoc⟩
      have hfw : Fr (w.heap.size + 2) ((w.alloc (Obj.cells #[.int .i64 ak, .string ⟨at_.toArray⟩, .int .i64 ap] 43)).alloc (Obj.cells #[.int .i64 bk, .string ⟨bt.toArray⟩, .int .i64 bp] 43)) w3 := ((h0.alloc _).alloc _).trans hf3
      have hfa : Fr w.heap.size w w3 := ((((hf.alloc _).alloc _).alloc _).alloc _).trans hf3
      have hb3 := (hfw.2.block w.heap.size (by omega)).trans HA0.out
      have hc3 := (hfw.2.block (w.heap.size + 1) (by omega)).trans HB0.out
      clear hfw hf3
      have hrl := block_lt hx
      have hol := outToks_length lang (at_ ++ bt)
      have hll : (at_ ++ bt).length ≤ 8000 := by rw [List.length_append]; omega
      obtain ⟨D, cb, e2, hD⟩ := tokRow_own hot rfl
      obtain ⟨E, cc, e3, hE⟩ := comRow_own hoc rfl
      subst e2; subst e3
      have x0 : w3.cell? ⟨r, 0, none⟩ = some (.slice D (outToks lang (at_ ++ bt)).length cb) := by rw [Lib.cell_of_heap hx]; rfl
      have x1 : w3.cell? ⟨r, 1, none⟩ = some (.slice E (outComs lang (at_ ++ bt)).length cc) := by rw [Lib.cell_of_heap hx]; rfl
      have x3 : w3.cell? ⟨r, 3, none⟩ = some (.int .i64 (readErr lang (at_ ++ bt)).2) := by rw [Lib.cell_of_heap hx]; rfl
      obtain ⟨b0, b1, b2⟩ := box_cells hb3
      obtain ⟨c0, c1, c2⟩ := box_cells hc3
      by_cases he : (readErr lang (at_ ++ bt)).2 = 0
      · have hbe : ((readErr lang (at_ ++ bt)).2 == 0) = true := by simp [he]
        cases hcl : outComs lang (at_ ++ bt) with
        | cons q rr =>
          have hv : together lang ⟨ak, at_, ap⟩ ⟨bk, bt, bp⟩ = false := by
            rw [Hv.out]
            exact decide_eq_false (fun h => by rw [hcl] at h; exact absurd h.2.1 (by simp))
          have hln : (((outComs lang (at_ ++ bt)).length : Int) == 0) = false := by rw [hcl]; simp; omega
          have Hv2 := Lib.hid hv
          clear hv he hx hb3 hc3 hot hoc hD hE hcl
          go_wp2_with fail
          go_quiet (fail)
          go_wp2_with fail
          go_ret
          exact ⟨by rw [Hv2.out]; rfl, hfa.drewN _⟩
        | nil =>
          have hv : together lang ⟨ak, at_, ap⟩ ⟨bk, bt, bp⟩ = sameToks (outToks lang (at_ ++ bt)) [⟨ak, at_, ap⟩, ⟨bk, bt, bp⟩] := by
            rw [Hv.out]
            unfold refReads sameToks; rw [hcl, he, Bool.eq_iff_iff]; simp
          have Hv2 := Lib.hid hv
          have hln : (outComs lang (at_ ++ bt)).length = 0 := by rw [hcl]; rfl
          rw [hln] at x1
          have Hst := Lib.hid (same_two lang (at_ ++ bt) ⟨ak, at_, ap⟩ ⟨bk, bt, bp⟩ w3 D cb hD (by omega))
          have Hnews := Lib.hid (news_two w3 ⟨ak, at_, ap⟩ ⟨bk, bt, bp⟩)
          have hbl := block_lt hb3
          have hcl2 := block_lt hc3
          have HK := Lib.hid (keep_two w3 ((Obj.cells #[.int .i64 ak, .string ⟨at_.toArray⟩, .int .i64 ap, .int .i64 bk, .string ⟨bt.toArray⟩, .int .i64 bp] 43)) hrl hbl hcl2 x3 x1 x0 b0 b1 b2 c0 c1 c2)
          clear hv he hx hot hoc hD hE hcl hb3 hc3
          have n0 := World.new_ne w3 _ x0
          have n1 := World.new_ne w3 _ x1
          have n3 := World.new_ne w3 _ x3
          have m0 := World.new_ne w3 _ b0
          have m1 := World.new_ne w3 _ b1
          have m2 := World.new_ne w3 _ b2
          have o0 := World.new_ne w3 _ c0
          have o1 := World.new_ne w3 _ c1
          have o2 := World.new_ne w3 _ c2
          go_wp2_with fail
          go_region_held3 (fun w' => w'.cell? ⟨r, 3, none⟩ = some (.int .i64 (readErr lang (at_ ++ bt)).2) ∧ w'.cell? ⟨r, 1, none⟩ = some (.slice E 0 cc) ∧ w'.cell? ⟨r, 0, none⟩ = some (.slice D (outToks lang (at_ ++ bt)).length cb) ∧
              w'.cell? ⟨w.heap.size, 0, none⟩ = some (.int .i64 ak) ∧ w'.cell? ⟨w.heap.size, 1, none⟩ = some (.string ⟨at_.toArray⟩) ∧ w'.cell? ⟨w.heap.size, 2, none⟩ = some (.int .i64 ap) ∧
              w'.cell? ⟨w.heap.size + 1, 0, none⟩ = some (.int .i64 bk) ∧ w'.cell? ⟨w.heap.size + 1, 1, none⟩ = some (.string ⟨bt.toArray⟩) ∧ w'.cell? ⟨w.heap.size + 1, 2, none⟩ = some (.int .i64 bp))
            (first | (exact HK.out _ hf4) | go_keep)
            (first | (go_at_call 20; refine (Hst.out _ _ Hnews.out (by simp) (((Fr.self w3).alloc _).drew)).mono ?_; rintro e w4 ⟨rfl, hf4⟩))
          go_wp2_with fail
          go_ret
          exact ⟨by rw [Hv2.out]; rfl, ((hfa.alloc _).drew).trans hf4⟩
      · have hbe : ((readErr lang (at_ ++ bt)).2 == 0) = false := by simp [he]
        have hv : together lang ⟨ak, at_, ap⟩ ⟨bk, bt, bp⟩ = false := by
          rw [Hv.out]
          exact decide_eq_false (fun h => he h.1)
        have Hv2 := Lib.hid hv
        clear hv he hx hb3 hc3 hot hoc hD hE
        go_wp2_with fail
        go_quiet (fail)
        go_wp2_with fail
        go_ret
        exact ⟨by rw [Hv2.out]; rfl, hfa.drewN _⟩
end Go.Proofs.YtknbmnckegonlaaGreatDoor
namespace Go.Proofs.YtknbmnckegonlaaGreatDoor
open Go.RowKit

set_option maxRecDepth 100000 in
set_option maxHeartbeats 8000000 in
theorem rJoin_any (lang : Int) (v : Value) (ts : List Tok) (w : World) (hrow : TokRow w w.heap.size v ts) (hts : ∀ t ∈ ts, t.text.length ≤ 4000) (hmx : ts.length ≤ maxLen) :
    Calls Tryz.prog 35 #[.int .i64 lang, v] w fun e w' => e = .returned (.tuple #[.string ⟨(joinRes lang ts).1.toArray⟩, .int .i64 (joinRes lang ts).2]) ∧ Fr w.heap.size w w' := by
  obtain ⟨A, cap, rfl, hrow⟩ := hrow
  unfold maxLen at hmx
  have hf := Fr.self w
  by_cases hlang : lang = 0 ∨ lang = 1
  · have Hil : Hid (∀ w, Calls Tryz.prog 25 #[.int .i64 lang] w fun e w' => e = .returned (.bool true) ∧ w = w') := fun w => by have := isLang_any lang w; rw [decide_eq_true hlang] at this; exact this
    by_cases hbig : 1500 < ts.length
    · have hv : joinRes lang ts = ([], 2) := by unfold joinRes; rw [if_neg (fun h => h hlang), if_pos hbig]
      have Hv := Lib.hid hv; clear hv hrow hts
      go_enter Tryz.func35, Tryz.ntmps35
      go_wp2_with (go_at_call 25; refine (Hil.out _).mono ?_; rintro e w' ⟨rfl, rfl⟩)
      go_ret2
      exact ⟨by rw [Hv.out]; rfl, hf⟩
    · have hv : joinRes lang ts = if tokErrs lang ts ≠ 0 then ([], tokErrs lang ts) else if 8000 < (joinK lang ts ts.length).length then ([], 2) else (joinK lang ts ts.length, 0) := by
        unfold joinRes; rw [if_neg (fun h => h hlang), if_neg hbig]
      have Hv := Lib.hid hv; have Hrow := Lib.hid hrow; have Hts := Lib.hid hts; clear hv hrow hts
      go_enter Tryz.func35, Tryz.ntmps35
      go_wp2_with (go_at_call 25; refine (Hil.out _).mono ?_; rintro e w' ⟨rfl, rfl⟩)
      go_loopw [6] (fun i wr => ∃ k : Nat, k ≤ ts.length ∧ i = .int .i64 k ∧ Fr w.heap.size w wr ∧ Hid (tokErrs lang ts = tokErrs lang (ts.drop k))) (fun i _ => ts.length - (intOf i).toNat)
      case atStart => exact ⟨0, by omega, rfl, hf, rfl⟩
      case round =>
        obtain ⟨k, hk, rfl, hfr, HE⟩ := hrel
        have hgrow := hfr.le
        by_cases hkl : k < ts.length
        · obtain ⟨⟨tk, tt, tp⟩, ht⟩ : ∃ p, ts[k]? = some p := ⟨_, List.getElem?_eq_getElem hkl⟩
          have hmem := List.mem_of_getElem? ht
          have htl := Hts.out _ hmem
          obtain ⟨b, off, rfl, hb, hcells⟩ : ∃ b off, A = some ⟨b, off, none⟩ ∧ b < w.heap.size ∧ ∀ (j : Nat) (u : Value), (tokCells ts)[j]? = some u → w.cell? ⟨b, off + j, none⟩ = some u := by
            rcases Hrow.out with h | h
            · rw [h] at hkl; simp at hkl
            · exact h
          have htc := tokCells_get ts k _ ht
          have g0 : wr.cell? ⟨b, off + k * 3, none⟩ = some (.int .i64 tk) := (hfr.cell (p := ⟨b, _, none⟩) hb).trans (hcells _ _ htc.1)
          have g1 : wr.cell? ⟨b, off + k * 3 + 1, none⟩ = some (.string ⟨tt.toArray⟩) := (hfr.cell (p := ⟨b, _, none⟩) hb).trans (hcells _ _ htc.2.1)
          have g2 : wr.cell? ⟨b, off + k * 3 + 2, none⟩ = some (.int .i64 tp) := (hfr.cell (p := ⟨b, _, none⟩) hb).trans (hcells _ _ htc.2.2)
          have hdr : ts.drop k = ⟨tk, tt, tp⟩ :: ts.drop (k + 1) := by
            rw [List.drop_eq_getElem_cons hkl]; congr 1
            rw [List.getElem?_eq_getElem hkl] at ht; exact Option.some.inj ht
          have hct := tokenErr_any lang hlang ⟨tk, tt, tp⟩ wr (by simp at htl ⊢; omega)
          obtain ⟨te, hte⟩ : ∃ x, tokErr lang ⟨tk, tt, tp⟩ = x := ⟨_, rfl⟩
          rw [hte] at hct
          simp only at hct
          have Hdr := Lib.hid hdr; have Hte := Lib.hid hte; have Hct := Lib.hid hct
          clear hdr hte hct ht hmem htl htc hcells
          by_cases he : te = 0
          · have hb0 : (te != 0) = false := by simp [he]
            have He := Lib.hid he; clear he
            go_wp2_with (go_at_call 31; refine Hct.out.mono ?_; rintro e w2 ⟨rfl, hf2⟩)
            go_roundw
            case rel => exact ⟨k + 1, by omega, by go_num, hfr.trans hf2, by unfold Hid; rw [HE.out, Hdr.out, tokErrs, Hte.out, if_neg (by simpa using He.out)]⟩
            case measure => simp [intOf] <;> omega
          · have hb0 : (te != 0) = true := by simp [he]
            have hv : joinRes lang ts = ([], te) := by
              rw [Hv.out, HE.out, Hdr.out, tokErrs, Hte.out, if_pos he, if_pos he]
            have Hv2 := Lib.hid hv; clear hv he
            go_wp2_with (go_at_call 31; refine Hct.out.mono ?_; rintro e w2 ⟨rfl, hf2⟩)
            go_ret2
            exact ⟨by rw [Hv2.out]; rfl, hfr.trans hf2⟩
        · have h0 : tokErrs lang ts = 0 := by rw [HE.out, List.drop_eq_nil_of_le (by omega)]; rfl
          have hall := tokErrs_all h0
          have hv : joinRes lang ts = if 8000 < (joinK lang ts ts.length).length then ([], 2) else (joinK lang ts ts.length, 0) := by
            rw [Hv.out, h0]; simp
          have Hv2 := Lib.hid hv; have Hall := Lib.hid hall; clear hv HE Hv h0 hall
          go_wp2_with fail
          go_loopw [8, 9] (fun s i wr => ∃ (k : Nat) (sb : ByteArray), k ≤ ts.length ∧ i = .int .i64 k ∧ s = .string sb ∧ Hid (sb.data.toList = joinK lang ts k) ∧ Fr w.heap.size w wr) (fun _ i _ => ts.length - (intOf i).toNat)
          case atStart => exact ⟨0, ByteArray.empty, by omega, rfl, rfl, rfl, hfr⟩
          case round =>
            clear hfr hgrow
            obtain ⟨k, sb, hk, rfl, rfl, HS, hfr⟩ := hrel
            have hjl := joinK_len lang ts 4000 Hts.out k hk
            have hsz : sb.size = (joinK lang ts k).length := by rw [ba_size, HS.out]
            have hsb : sb.size ≤ 6100000 := by omega
            have hgrow2 := hfr.le
            by_cases hkl : k < ts.length
            · obtain ⟨⟨tk, tt, tp⟩, ht⟩ : ∃ p, ts[k]? = some p := ⟨_, List.getElem?_eq_getElem hkl⟩
              have htl := Hts.out _ (List.mem_of_getElem? ht)
              have hta := Hall.out _ (List.mem_of_getElem? ht)
              simp only at htl
              have hzt : (ByteArray.mk tt.toArray).size ≤ 4000 := by rw [ba_size, ba_mk]; exact htl
              obtain ⟨b, off, rfl, hb, hcells⟩ : ∃ b off, A = some ⟨b, off, none⟩ ∧ b < w.heap.size ∧ ∀ (j : Nat) (u : Value), (tokCells ts)[j]? = some u → w.cell? ⟨b, off + j, none⟩ = some u := by
                rcases Hrow.out with h | h
                · rw [h] at hkl; simp at hkl
                · exact h
              have htc := tokCells_get ts k _ ht
              have g0 : wr.cell? ⟨b, off + k * 3, none⟩ = some (.int .i64 tk) := (hfr.cell (p := ⟨b, _, none⟩) hb).trans (hcells _ _ htc.1)
              have g1 : wr.cell? ⟨b, off + k * 3 + 1, none⟩ = some (.string ⟨tt.toArray⟩) := (hfr.cell (p := ⟨b, _, none⟩) hb).trans (hcells _ _ htc.2.1)
              have g2 : wr.cell? ⟨b, off + k * 3 + 2, none⟩ = some (.int .i64 tp) := (hfr.cell (p := ⟨b, _, none⟩) hb).trans (hcells _ _ htc.2.2)
              have hgk : ts.getD k tok0 = ⟨tk, tt, tp⟩ := by rw [List.getD_eq_getElem?_getD, ht]; rfl
              have Hgk := Lib.hid hgk; clear hgk
              have Hsz := Lib.hid hsz; clear hsz
              by_cases hk0 : k = 0
              · have hnx : joinK lang ts (k + 1) = joinK lang ts k ++ tt := by
                  have : sepK lang ts k = [] := by unfold sepK; rw [if_neg (by omega)]
                  rw [joinK, this, List.append_nil, Hgk.out]
                have hpos : decide ((0 : Int) < (k : Int)) = false := by simp; omega
                have hpos2 : decide (0 < k) = false := by simp; omega
                have Hnx := Lib.hid hnx; have Hk0 := Lib.hid hk0
                clear hnx htc ht hcells hk0 hta
                go_wp2_with fail
                go_quiet (fail)
                go_wp2_with fail
                go_roundw
                case rel => exact ⟨k + 1, _, by omega, by go_num, rfl, by unfold Hid; rw [ba_append, HS.out, Hnx.out], hfr.drewN _⟩
                case measure => simp [intOf] <;> omega
              · obtain ⟨m, rfl⟩ : ∃ m, k = m + 1 := ⟨k - 1, by omega⟩
                obtain ⟨⟨pk, pt, pp⟩, hpv⟩ : ∃ p, ts[m]? = some p := ⟨_, List.getElem?_eq_getElem (by omega)⟩
                have hptl := Hts.out _ (List.mem_of_getElem? hpv)
                have hpta := Hall.out _ (List.mem_of_getElem? hpv)
                simp only at hptl
                have hpc := tokCells_get ts m _ hpv
                have p0 : wr.cell? ⟨b, off + m * 3, none⟩ = some (.int .i64 pk) := (hfr.cell (p := ⟨b, _, none⟩) hb).trans (hcells _ _ hpc.1)
                have p1 : wr.cell? ⟨b, off + m * 3 + 1, none⟩ = some (.string ⟨pt.toArray⟩) := (hfr.cell (p := ⟨b, _, none⟩) hb).trans (hcells _ _ hpc.2.1)
                have p2 : wr.cell? ⟨b, off + m * 3 + 2, none⟩ = some (.int .i64 pp) := (hfr.cell (p := ⟨b, _, none⟩) hb).trans (hcells _ _ hpc.2.2)
                have hgp : ts.getD m tok0 = ⟨pk, pt, pp⟩ := by rw [List.getD_eq_getElem?_getD, hpv]; rfl
                have hbs := fun w => beside_any lang ⟨pk, pt, pp⟩ ⟨tk, tt, tp⟩ hpta hta w (by simp; omega) (by simp; omega)
                have hsk : sepK lang ts (m + 1) = if together lang ⟨pk, pt, pp⟩ ⟨tk, tt, tp⟩ = false then [32] else [] := by
                  unfold sepK; rw [Nat.add_sub_cancel, Hgk.out, hgp]; simp
                have hbw : b < wr.heap.size := by omega
                have hK : ∀ w4, Fr wr.drew.heap.size wr.drew w4 → w4.cell? ⟨b, off + m * 3, none⟩ = some (.int .i64 pk) ∧ w4.cell? ⟨b, off + m * 3 + 1, none⟩ = some (.string ⟨pt.toArray⟩) ∧ w4.cell? ⟨b, off + m * 3 + 2, none⟩ = some (.int .i64 pp) ∧
                    w4.cell? ⟨b, off + (m + 1) * 3, none⟩ = some (.int .i64 tk) ∧ w4.cell? ⟨b, off + (m + 1) * 3 + 1, none⟩ = some (.string ⟨tt.toArray⟩) ∧ w4.cell? ⟨b, off + (m + 1) * 3 + 2, none⟩ = some (.int .i64 tp) := fun w4 h =>
                  ⟨(h.cell (p := ⟨b, _, none⟩) hbw).trans p0, (h.cell (p := ⟨b, _, none⟩) hbw).trans p1, (h.cell (p := ⟨b, _, none⟩) hbw).trans p2, (h.cell (p := ⟨b, _, none⟩) hbw).trans g0, (h.cell (p := ⟨b, _, none⟩) hbw).trans g1, (h.cell (p := ⟨b, _, none⟩) hbw).trans g2⟩
                have HK := Lib.hid hK; clear hK
                have hw0 : IntKind.i64.wrap (m : Int) = m := IntWalk.i64_in _ (by omega)
                have hw1 : (0 : Int) ≤ (m : Int) := by omega
                have hw2 : (m : Int) < ts.length := by omega
                have hw3 : (0 : Int) ≤ (m : Int) + 1 := by omega
                have hw4 : (m : Int) + 1 < ts.length := by omega
                rcases htg : together lang ⟨pk, pt, pp⟩ ⟨tk, tt, tp⟩ with _ | _
                · rw [htg] at hbs hsk
                  have hnx : joinK lang ts (m + 1 + 1) = (joinK lang ts (m + 1) ++ [32]) ++ tt := by rw [joinK, hsk, if_pos rfl, Hgk.out]
                  have Hnx := Lib.hid hnx; have Hbs := Lib.hid hbs
                  clear hnx htc ht hcells hk0 hbs hsk htg hgp hpc hpv hta hpta
                  go_wp2_with fail
                  go_region_held3 (fun w' => w'.cell? ⟨b, off + m * 3, none⟩ = some (.int .i64 pk) ∧ w'.cell? ⟨b, off + m * 3 + 1, none⟩ = some (.string ⟨pt.toArray⟩) ∧ w'.cell? ⟨b, off + m * 3 + 2, none⟩ = some (.int .i64 pp) ∧
                      w'.cell? ⟨b, off + (m + 1) * 3, none⟩ = some (.int .i64 tk) ∧ w'.cell? ⟨b, off + (m + 1) * 3 + 1, none⟩ = some (.string ⟨tt.toArray⟩) ∧ w'.cell? ⟨b, off + (m + 1) * 3 + 2, none⟩ = some (.int .i64 tp))
                    (first | (exact HK.out _ hf4) | go_keep)
                    (first | (go_at_call 63; refine (Hbs.out _).mono ?_; rintro e w4 ⟨rfl, hf4⟩))
                  obtain ⟨-, -, -, q0, q1, q2⟩ := HK.out _ hf4
                  have hfr4 : Fr w.heap.size w w4 := hfr.drew.trans hf4
                  go_wp2_with fail
                  go_roundw
                  case rel => exact ⟨m + 1 + 1, _, by omega, by go_num, rfl, by unfold Hid; rw [ba_append, ba_append, HS.out, Hnx.out], hfr4⟩
                  case measure => simp [intOf] <;> omega
                · rw [htg] at hbs hsk
                  have hnx : joinK lang ts (m + 1 + 1) = joinK lang ts (m + 1) ++ tt := by rw [joinK, hsk, if_neg (by decide), Hgk.out, List.append_nil]
                  have Hnx := Lib.hid hnx; have Hbs := Lib.hid hbs
                  clear hnx htc ht hcells hk0 hbs hsk htg hgp hpc hpv hta hpta
                  go_wp2_with fail
                  go_region_held3 (fun w' => w'.cell? ⟨b, off + m * 3, none⟩ = some (.int .i64 pk) ∧ w'.cell? ⟨b, off + m * 3 + 1, none⟩ = some (.string ⟨pt.toArray⟩) ∧ w'.cell? ⟨b, off + m * 3 + 2, none⟩ = some (.int .i64 pp) ∧
                      w'.cell? ⟨b, off + (m + 1) * 3, none⟩ = some (.int .i64 tk) ∧ w'.cell? ⟨b, off + (m + 1) * 3 + 1, none⟩ = some (.string ⟨tt.toArray⟩) ∧ w'.cell? ⟨b, off + (m + 1) * 3 + 2, none⟩ = some (.int .i64 tp))
                    (first | (exact HK.out _ hf4) | go_keep)
                    (first | (go_at_call 63; refine (Hbs.out _).mono ?_; rintro e w4 ⟨rfl, hf4⟩))
                  obtain ⟨-, -, -, q0, q1, q2⟩ := HK.out _ hf4
                  have hfr4 : Fr w.heap.size w w4 := hfr.drew.trans hf4
                  go_wp2_with fail
                  go_roundw
                  case rel => exact ⟨m + 1 + 1, _, by omega, by go_num, rfl, by unfold Hid; rw [ba_append, HS.out, Hnx.out], hfr4⟩
                  case measure => simp [intOf] <;> omega
            · have hke : k = ts.length := by omega
              have hs : sb.data.toList = joinK lang ts ts.length := by rw [← hke]; exact HS.out
              have hse : sb = ⟨(joinK lang ts ts.length).toArray⟩ := by rw [← hs]
              have Hs := Lib.hid hse
              clear hke hs hse HS
              by_cases hb8 : 8000 < sb.size
              · have hv : joinRes lang ts = ([], 2) := by rw [Hv2.out, if_pos]; rw [Hs.out, ba_size, ba_mk] at hb8; exact hb8
                have Hv3 := Lib.hid hv; clear hv
                go_wp2_with fail
                go_ret2
                exact ⟨by rw [Hv3.out]; rfl, hfr⟩
              · have hv : joinRes lang ts = (joinK lang ts ts.length, 0) := by rw [Hv2.out, if_neg]; rw [Hs.out, ba_size, ba_mk] at hb8; exact hb8
                have Hv3 := Lib.hid hv; clear hv
                go_wp2_with fail
                go_ret2
                exact ⟨by rw [Hv3.out, Hs.out]; rfl, hfr⟩
  · have Hil : Hid (∀ w, Calls Tryz.prog 25 #[.int .i64 lang] w fun e w' => e = .returned (.bool false) ∧ w = w') := fun w => by have := isLang_any lang w; rw [decide_eq_false hlang] at this; exact this
    have hv : joinRes lang ts = ([], 4) := by unfold joinRes; rw [if_pos hlang]
    have Hv := Lib.hid hv; clear hv hrow hts
    go_enter Tryz.func35, Tryz.ntmps35
    go_wp2_with (go_at_call 25; refine (Hil.out _).mono ?_; rintro e w' ⟨rfl, rfl⟩)
    go_ret2
    exact ⟨by rw [Hv.out]; rfl, hf⟩
end Go.Proofs.YtknbmnckegonlaaGreatDoor
