/- The chapter's example: awake. -/
import Derived.Test.YtoelifebmhlokaaGreatDoorSAns
namespace Go.Proofs.YtoelifebmhlokaaGreatDoor
open Go.RowKit

theorem exE_at (w : World) (g : Nat) (W : World) (hg : g < W.heap.size) (ha : w.heap.size + 1 < W.heap.size) (a0 : W.cell? ⟨w.heap.size + 1, 0, none⟩ = some (.int .i64 0)) (a1 : W.cell? ⟨w.heap.size + 1, 1, none⟩ = some (.int .i64 1))
    (hc : ∀ k, W.cell? ⟨g, k, none⟩ = #[.int .i64 0, .int .i64 1, .int .i64 5, .string ⟨#[]⟩, .slice none 0 0, .int .i64 0, .int .i64 8, .int .i64 8, .string ⟨#[]⟩, .slice none 0 0, .int .i64 7, .int .i64 0, .int .i64 0, .string ⟨#[]⟩, .slice (some ⟨w.heap.size + 1, 0, none⟩) 2 2][k]?) : LimAt W.heap.size W (some ⟨g, 0, none⟩) exE := by
  refine .inr ⟨g, 0, fun i => if i = 2 then (some ⟨w.heap.size + 1, 0, none⟩, 2) else (none, 0), rfl, hg, fun i x hx => ?_, fun i x hx j u hu => ?_⟩
  · rcases i with _ | _ | _ | i
    · cases hx
      exact ⟨.inl rfl, Nat.le_refl _, fun _ => rfl, (by simp [InI]), (by simp [InI]), (by simp [InI]), (by decide)⟩
    · cases hx
      exact ⟨.inl rfl, Nat.le_refl _, fun _ => rfl, (by simp [InI]), (by simp [InI]), (by simp [InI]), (by decide)⟩
    · cases hx
      refine ⟨.inr ⟨w.heap.size + 1, 0, rfl, ha, fun j x hx => ?_⟩, Nat.le_refl _, (fun h => by cases h), (by simp [InI]), (by simp [InI]), (by simp [InI]), (by decide)⟩
      rcases j with _ | _ | j
      · cases hx; exact a0
      · cases hx; exact a1
      · simp at hx
    · simp [exE] at hx
  · rcases i with _ | _ | _ | i
    · cases hx
      rcases j with _ | _ | _ | _ | _ | j <;> first | (cases hu; exact hc _) | (simp [LN.cells] at hu)
    · cases hx
      rcases j with _ | _ | _ | _ | _ | j <;> first | (cases hu; exact hc _) | (simp [LN.cells] at hu)
    · cases hx
      rcases j with _ | _ | _ | _ | _ | j <;> first | (cases hu; exact hc _) | (simp [LN.cells] at hu)
    · simp [exE] at hx
set_option maxRecDepth 100000 in
theorem Example_any (w : World) : Calls Tryz.prog 14 #[] w fun e w' => ∃ b, e = .returned (.agg #[.int .i64 2, .string ⟨#[]⟩, .slice none 0 0, .slice none 0 0, .bool false, .int .i64 0, .slice none 0 0, .slice (some ⟨b, 0, none⟩) 3 3]) ∧ LimAt w'.heap.size w' (some ⟨b, 0, none⟩) exE ∧ Fr w.heap.size w w' := by
  go_enter Tryz.func14, Tryz.ntmps14
  go_wp2_with fail
  refine bodyPost_ret (v := .agg #[.int .i64 2, .string ⟨#[]⟩, .slice none 0 0, .slice none 0 0, .bool false, .int .i64 0, .slice none 0 0, .slice (some ⟨w.heap.size + 1 + 1, 0, none⟩) 3 3]) (by simp [results, Tryz.results14, go_sem]) rfl ⟨_, rfl, exE_at w _ _ (by simp) (by simp) ?_ ?_ ?_, ?_⟩
  · exact (World.cell?_alloc_lt _ _ _ (by simp)).trans (by have := cell_new (w.alloc (.cells #[.int .i64 2, .string ⟨#[]⟩, .slice none 0 0, .slice none 0 0, .bool false, .int .i64 0, .slice none 0 0, .slice (some ⟨w.heap.size + 1 + 1, 0, none⟩) 3 3] 45)) #[.int .i64 0, .int .i64 1] 3 0; rwa [World.size_alloc] at this)
  · exact (World.cell?_alloc_lt _ _ _ (by simp)).trans (by have := cell_new (w.alloc (.cells #[.int .i64 2, .string ⟨#[]⟩, .slice none 0 0, .slice none 0 0, .bool false, .int .i64 0, .slice none 0 0, .slice (some ⟨w.heap.size + 1 + 1, 0, none⟩) 3 3] 45)) #[.int .i64 0, .int .i64 1] 3 1; rwa [World.size_alloc] at this)
  · intro k
    have := cell_new ((w.alloc (.cells #[.int .i64 2, .string ⟨#[]⟩, .slice none 0 0, .slice none 0 0, .bool false, .int .i64 0, .slice none 0 0, .slice (some ⟨w.heap.size + 1 + 1, 0, none⟩) 3 3] 45)).alloc (.cells #[.int .i64 0, .int .i64 1] 3)) #[.int .i64 0, .int .i64 1, .int .i64 5, .string ⟨#[]⟩, .slice none 0 0, .int .i64 0, .int .i64 8, .int .i64 8, .string ⟨#[]⟩, .slice none 0 0, .int .i64 7, .int .i64 0, .int .i64 0, .string ⟨#[]⟩, .slice (some ⟨w.heap.size + 1, 0, none⟩) 2 2] 65 k
    rwa [World.size_alloc, World.size_alloc] at this
  · exact (((Fr.self w).alloc _).alloc _).alloc _
theorem Int_any (n : Int) (w : World) : Calls Tryz.prog 15 #[.int .i64 n] w fun e w' => e = .returned (.agg #[.int .i64 2, .int .i64 n, .int .i64 0, .string ⟨#[]⟩, .slice none 0 0, .slice none 0 0]) ∧ Fr w.heap.size w w' := by
  go_enter Tryz.func15, Tryz.ntmps15
  go_wp2_with fail
  exact bodyPost_ret (v := .agg #[.int .i64 2, .int .i64 n, .int .i64 0, .string ⟨#[]⟩, .slice none 0 0, .slice none 0 0]) (by simp [results, Tryz.results15, go_sem]) rfl ⟨rfl, (Fr.self w).alloc _⟩
set_option maxRecDepth 100000 in
set_option maxHeartbeats 2000000 in
theorem awake_any (w : World) (hp : PartTy w) (hi : PartInt w) (hv : PartVal w) : Calls Tryz.prog 4 #[] w fun e w' => e = .returned (.bool true) ∧ Fr w.heap.size w w' := by
  have hf := Fr.self w
  have Hp := Lib.hid hp; have Hi := Lib.hid hi; have Hv := Lib.hid hv
  have Hx := Lib.hid Example_any
  have Hn := Lib.hid (Int_any 8)
  have HP := Lib.hid (fun (b : Nat) w h hp hi hv => Permits_E (B := w.heap.size) b 0 3 w h (Nat.le_refl _) hp hi hv)
  have HR := Lib.hid (fun (b : Nat) w h hp hi hv => InRoot_E (B := w.heap.size) b 0 3 w h (Nat.le_refl _) hp hi hv (by omega))
  have HO := Lib.hid (fun (b : Nat) w h hp => RangeOf_E (B := w.heap.size) b 0 3 w h (Nat.le_refl _) hp (by omega))
  clear hp hi hv
  go_enter Tryz.func4, Tryz.ntmps4
  go_wp2_with fail
  refine (Hx.out _).mono ?_
  rintro e w1 ⟨b1, rfl, hl1, hf1⟩
  go_wp2_with fail
  refine (Hn.out _).mono ?_
  rintro e w2 ⟨rfl, hf2⟩
  have hF2 := (hf.trans hf1).trans hf2
  go_wp2_with fail
  refine (HP.out b1 _ ((hl1.keep hf2.2).mono hf2.2.size) (Hp.out.keep hF2.2) (Hi.out.keep hF2.2) (Hv.out.keep hF2.2)).mono ?_
  rintro e w3 ⟨rfl, hf3⟩
  have hF3 := hF2.trans hf3
  clear hf hf1 hf2 hf3 hF2 hl1
  go_wp2_with fail
  refine (Hx.out _).mono ?_
  rintro e w4 ⟨b4, rfl, hl4, hf4⟩
  go_wp2_with fail
  refine (Hn.out _).mono ?_
  rintro e w5 ⟨rfl, hf5⟩
  have hF5 := (hF3.trans hf4).trans hf5
  go_wp2_with fail
  refine (HR.out b4 _ ((hl4.keep hf5.2).mono hf5.2.size) (Hp.out.keep hF5.2) (Hi.out.keep hF5.2) (Hv.out.keep hF5.2)).mono ?_
  rintro e w6 ⟨rfl, hf6⟩
  have hF6 := hF5.trans hf6
  clear hf4 hf5 hf6 hF5 hF3 hl4
  go_wp2_with fail
  refine (Hx.out _).mono ?_
  rintro e w7 ⟨b7, rfl, hl7, hf7⟩
  have hF7 := hF6.trans hf7
  go_wp2_with fail
  refine (HO.out b7 _ hl7 (Hp.out.keep hF7.2)).mono ?_
  rintro e w8 ⟨rfl, hf8⟩
  have hF8 := hF7.trans hf8
  clear hF7 hf8 hf7 hF6 hl7
  go_wp2_with fail
  go_ret
  exact ⟨rfl, hF8.alloc _⟩
end Go.Proofs.YtoelifebmhlokaaGreatDoor
