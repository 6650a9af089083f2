/- What each node of a constraint is about: subjects. -/
import Derived.Test.YtoelifebmhlokaaGreatDoorSBack
namespace Go.Proofs.YtoelifebmhlokaaGreatDoor
open Go.RowKit Go.Shelf
attribute [local go_sem] Oper.semAt_some

theorem Backward_in (F : Fence) (n : Nat) (hF : F.fn 83) (hro : F.round = none) (a : Option Addr) (len cap : Nat) (w : World) :
    CallsIn F n Tryz.prog 83 #[.slice a len cap] w fun e w' => e = .returned (.func (.func 105) #[] #[.pointer (some ⟨w.heap.size, 0, none⟩)]) ∧ w' = w.alloc (.cells #[.slice a len cap] 43) := by
  refine callsIn_of_wp Tryz.func83 rfl hF ?_ hro
  simp only [Tryz.ntmps83, List.size_toArray, List.length_cons, List.length_nil, Nat.reduceAdd, Nat.reduceSub, Array.replicate_succ, Array.replicate_zero, List.push_toArray, List.append_toArray, List.nil_append, List.cons_append]
  gi_wp2
  go_ret
  exact ⟨rfl, rfl⟩
theorem back1_nil_in (n : Nat) (l Bs : Nat) {α : Type} (J : List α → World → Prop) (W : World) (b : Option Addr) (cap : Nat) (hBs : W.cell? ⟨Bs, 0, none⟩ = some (.slice b 0 cap)) (h0 : J [] W) :
    CallsIn Fence.wide n Tryz.prog 105 #[.func (.yield l) #[] #[], .pointer (some ⟨Bs, 0, none⟩)] W fun e W' => (∃ v, e = .returned v) ∧ J [] W' := by
  refine callsIn_of_wp Tryz.func105 rfl trivial ?_ rfl
  simp only [Tryz.ntmps105, List.size_toArray, List.length_cons, List.length_nil, Nat.reduceAdd, Nat.reduceSub, Array.replicate_succ, Array.replicate_zero, List.push_toArray, List.append_toArray, List.nil_append, List.cons_append]
  gi_wp2
  gi_loopw [3] (fun i wr => i = .int .i64 (-1) ∧ J [] wr) (fun _ _ => 0)
  case atStart => exact ⟨rfl, h0⟩
  case round =>
    obtain ⟨rfl, hJs⟩ := hrel
    gi_wp2
    go_end0
    exact ⟨⟨_, rfl⟩, hJs⟩
/-- The nodes from the last one on: so many at most, as the law wants them. -/
theorem back_stops {B : Nat} {w0 : World} (l : List LN) (A : Option Addr) (cap : Nat) (n : Nat) (hn : 1 ≤ n) (Bs n₀ : Nat) (f : Nat → GX B w0 l.length) (hf : ∀ k, k < l.length → (f k).1.i = l.length - 1 - k) (hlen : l.length ≤ 20) (w : World)
    (hb : ∀ a, A = some a → l ≠ [] → a.block < n₀) (hBs : Bs < w.heap.size) (hn₀ : n₀ ≤ w.heap.size) (hc : w.cell? ⟨Bs, 0, none⟩ = some (.slice A l.length cap))
    (hN : l ≠ [] → ∃ b off, A = some ⟨b, off, none⟩ ∧ ∀ k, k < l.length → w.cell? ⟨b, off + (l.length - 1 - k) * 5, none⟩ = some (.int .i64 (f k).1.nd.kind) ∧ w.cell? ⟨b, off + (l.length - 1 - k) * 5 + 1, none⟩ = some (.int .i64 (f k).1.nd.lo) ∧ w.cell? ⟨b, off + (l.length - 1 - k) * 5 + 2, none⟩ = some (.int .i64 (f k).1.nd.hi) ∧
      w.cell? ⟨b, off + (l.length - 1 - k) * 5 + 3, none⟩ = some (.string ⟨(f k).1.nd.text.toArray⟩) ∧ w.cell? ⟨b, off + (l.length - 1 - k) * 5 + 4, none⟩ = some (.slice (f k).1.A (f k).1.nd.args.length (f k).1.ca)) :
    SeqStopsK Fence.wide n Tryz.prog 105 #[.pointer (some ⟨Bs, 0, none⟩)] (fun x : GX B w0 l.length => encX x) (KpB n₀ Bs) (fun ys => ys = upF f l.length) (fun pre => ∃ k, k ≤ l.length ∧ pre = upF f k) l.length w :=
  fun lp J Jx W hW _ _ hY h0 => by
    have hc' := (hW.cell (p := ⟨Bs, 0, none⟩) hBs).trans hc
    by_cases hl : l = []
    · subst hl
      exact (back1_nil_in n lp Bs J W A cap hc' h0).mono fun e W' ⟨he, hj⟩ => ⟨he, .inl ⟨_, rfl, hj⟩⟩
    · obtain ⟨b, off, rfl, hNc⟩ := hN hl
      have hb' : b < n₀ := hb _ rfl hl
      have hbw : b < w.heap.size := Nat.lt_of_lt_of_le hb' hn₀
      refine back1_in n hn lp Bs n₀ b off cap f hf hb' hlen J Jx hY W hc' (fun k hk => ?_) h0
      obtain ⟨c0, c1, c2, c3, c4⟩ := hNc k hk
      exact ⟨(hW.cell (p := ⟨b, _, none⟩) hbw).trans c0, (hW.cell (p := ⟨b, _, none⟩) hbw).trans c1, (hW.cell (p := ⟨b, _, none⟩) hbw).trans c2, (hW.cell (p := ⟨b, _, none⟩) hbw).trans c3, (hW.cell (p := ⟨b, _, none⟩) hbw).trans c4⟩
/-- The nodes of a constraint as the range meets them. -/
theorem nodes_back {B : Nat} {w : World} {l : List LN} {A : Option Addr} (h : LimAt B w A l) (hargs : ∀ (i : Nat) (x : LN), l[i]? = some x → (∀ a ∈ x.args, 0 ≤ a ∧ a < (i : Int)) ∧ x.args.length ≤ 20) (hl : l ≠ []) :
    ∃ f : Nat → GX B w l.length, (∀ k, k < l.length → (f k).1.i = l.length - 1 - k ∧ l[(f k).1.i]? = some (f k).1.nd) ∧ ∃ b off, A = some ⟨b, off, none⟩ ∧ b < B ∧ ∀ k, k < l.length → w.cell? ⟨b, off + (l.length - 1 - k) * 5, none⟩ = some (.int .i64 (f k).1.nd.kind) ∧ w.cell? ⟨b, off + (l.length - 1 - k) * 5 + 1, none⟩ = some (.int .i64 (f k).1.nd.lo) ∧ w.cell? ⟨b, off + (l.length - 1 - k) * 5 + 2, none⟩ = some (.int .i64 (f k).1.nd.hi) ∧
      w.cell? ⟨b, off + (l.length - 1 - k) * 5 + 3, none⟩ = some (.string ⟨(f k).1.nd.text.toArray⟩) ∧ w.cell? ⟨b, off + (l.length - 1 - k) * 5 + 4, none⟩ = some (.slice (f k).1.A (f k).1.nd.args.length (f k).1.ca) := by
  have hpos : 0 < l.length := by cases l <;> simp_all
  obtain ⟨b, off, rfl, hb⟩ := h.addr (List.getElem?_eq_getElem hpos)
  have key : ∀ i, i < l.length → ∃ x : GX B w l.length, x.1.i = i ∧ l[i]? = some x.1.nd ∧ w.cell? ⟨b, off + i * 5, none⟩ = some (.int .i64 x.1.nd.kind) ∧ w.cell? ⟨b, off + i * 5 + 1, none⟩ = some (.int .i64 x.1.nd.lo) ∧ w.cell? ⟨b, off + i * 5 + 2, none⟩ = some (.int .i64 x.1.nd.hi) ∧
      w.cell? ⟨b, off + i * 5 + 3, none⟩ = some (.string ⟨x.1.nd.text.toArray⟩) ∧ w.cell? ⟨b, off + i * 5 + 4, none⟩ = some (.slice x.1.A x.1.nd.args.length x.1.ca) := fun i hi => by
    have hx := List.getElem?_eq_getElem hi
    obtain ⟨-, A', ca, hr, c0, c1, c2, c3, c4⟩ := h.item hx
    exact ⟨⟨⟨i, l[i], A', ca⟩, hi, hr, (hargs i _ hx).1, (hargs i _ hx).2⟩, rfl, hx, c0, c1, c2, c3, c4⟩
  have x0 : GX B w l.length := Classical.choose (key 0 hpos)
  refine ⟨fun k => if hk : k < l.length then Classical.choose (key (l.length - 1 - k) (by omega)) else x0, fun k hk => ?_, b, off, rfl, hb, fun k hk => ?_⟩
  · simp only [dif_pos hk]
    have := Classical.choose_spec (key (l.length - 1 - k) (by omega))
    exact ⟨this.1, by rw [this.1]; exact this.2.1⟩
  · simp only [dif_pos hk]
    exact (Classical.choose_spec (key (l.length - 1 - k) (by omega))).2.2
end Go.Proofs.YtoelifebmhlokaaGreatDoor
