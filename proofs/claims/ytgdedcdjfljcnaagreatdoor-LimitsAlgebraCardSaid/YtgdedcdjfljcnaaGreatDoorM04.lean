/- Contracts on the form of a whole number: CheckForm. -/
import Derived.Test.YtgdedcdjfljcnaaGreatDoorM03
import Derived.Test.YtgdedcdjfljcnaaGreatDoorM02
import Derived.Deep.RegionHeld3
namespace Go.Proofs.YtgdedcdjfljcnaaGreatDoor
open Go.RowKit

/-- What the program's table says of whole numbers. -/
def PartInt (w : World) : Prop := w.cell? ⟨2, 10, none⟩ = some (.bool true) ∧ w.cell? ⟨2, 11, none⟩ = some (.bool false) ∧ w.cell? ⟨2, 12, none⟩ = some (.bool false) ∧
  w.cell? ⟨2, 13, none⟩ = some (.bool false) ∧ w.cell? ⟨2, 14, none⟩ = some (.bool false)
theorem PartInt.keep {w w' : World} (h : PartInt w) (hf : Below w.heap.size w w') : PartInt w' := by
  have hg := cell_block h.1
  obtain ⟨h0, h1, h2, h3, h4⟩ := h
  exact ⟨(hf.cell (p := ⟨_, 10, none⟩) hg).trans h0, (hf.cell (p := ⟨_, 11, none⟩) hg).trans h1, (hf.cell (p := ⟨_, 12, none⟩) hg).trans h2, (hf.cell (p := ⟨_, 13, none⟩) hg).trans h3, (hf.cell (p := ⟨_, 14, none⟩) hg).trans h4⟩
/-- Rules that lie in a new block. -/
def ruCells : List Ru → List Value
  | [] => []
  | r :: t => .int .i64 r.err :: .func (Fn.func r.fn) #[r.bound] #[] :: ruCells t
theorem ruCells_get : ∀ (l : List Ru) (k : Nat) (r : Ru), l[k]? = some r → (ruCells l)[k * 2]? = some (.int .i64 r.err) ∧ (ruCells l)[k * 2 + 1]? = some (.func (Fn.func r.fn) #[r.bound] #[])
  | [], k, r, h => by simp at h
  | g :: t, 0, r, h => by
    simp at h
    subst h
    exact ⟨rfl, rfl⟩
  | g :: t, k + 1, r, h => by
    have ih := ruCells_get t k r (by simpa using h)
    have e : ∀ j, (ruCells (g :: t))[(k + 1) * 2 + j]? = (ruCells t)[k * 2 + j]? := fun j => by
      rw [ruCells, (by omega : (k + 1) * 2 + j = (k * 2 + j) + 1 + 1), List.getElem?_cons_succ, List.getElem?_cons_succ]
    have e0 := e 0
    rw [Nat.add_zero, Nat.add_zero] at e0
    rw [e0, e 1]
    exact ih
theorem frozen_new (w : World) (cs : Array Value) (t : TypeId) (j : Nat) : (w.alloc (.cells cs t)).frozen? ⟨w.heap.size, j, none⟩ = false := by
  unfold World.frozen?
  simp only [heap_alloc_new]
  rfl
theorem firstBroken_new (rs : List Ru) (W : World) (cap : Nat) (cs : Array Value) (hcs : cs.toList = ruCells rs) (hn : rs.length ≤ 100)
    (hent : ∀ r ∈ rs, ∀ W : World, (callFunc r.fn #[r.bound]).run Tryz.prog W = .ok (.enter r.fn #[r.bound]) W)
    (hcalls : ∀ r ∈ rs, ∀ W', Fr W.heap.size W W' → Calls Tryz.prog r.fn #[r.bound] W' fun e w' => e = .returned (.bool r.ans) ∧ Fr W'.heap.size W' w') :
    Calls Tryz.prog 130 #[.slice (some ⟨W.heap.size, 0, none⟩) rs.length cap] (W.alloc (.cells cs 160)) fun e w' => e = .returned (.int .i64 (firstOf rs)) ∧ Fr W.heap.size W w' := by
  have hfa := (Fr.self W).alloc (.cells cs 160)
  have hk : ∀ j u, (ruCells rs)[j]? = some u → (W.alloc (.cells cs 160)).cell? ⟨W.heap.size, j, none⟩ = some u := fun j u hu => by
    rw [cell_new, ← Array.getElem?_toList, hcs]; exact hu
  refine (firstBroken_any rs W.heap.size cap _ hn (by simp) (fun j r hr => ⟨hk _ _ (ruCells_get rs j r hr).1, hk _ _ (ruCells_get rs j r hr).2⟩) hent (fun r hr W' hf' => hcalls r hr W' (hfa.trans hf'))).mono ?_
  rintro e w' ⟨rfl, hf⟩
  exact ⟨rfl, hfa.trans hf⟩
theorem isInt_yes (n : Int) (h : -1152921504606846976 ≤ n ∧ n ≤ 1152921504606846976) (w : World) : Calls Tryz.prog 163 #[.int .i64 n] w fun e w' => e = .returned (.bool true) ∧ w = w' := by
  obtain ⟨h1, h2⟩ := h
  go_enter Tryz.func163, Tryz.ntmps163
  go_wp2
  go_ret
  exact ⟨rfl, rfl⟩
theorem iv_foreign (n : Int) (w : World) (hp : PartInt w) : Calls Tryz.prog 131 #[.agg #[.int .i64 2, .int .i64 n, .int .i64 0, .string ⟨#[]⟩, .slice none 0 0, .slice none 0 0]] w fun e w' => e = .returned (.bool false) ∧ Fr w.heap.size w w' := by
  have hf := Fr.self w
  have hg := cell_block hp.1
  simp only at hg
  obtain ⟨t0, t1, t2, t3, t4⟩ := hp
  go_enter Tryz.func131, Tryz.ntmps131
  go_wp2_with fail
  go_ret
  exact ⟨rfl, by first | exact hf.alloc _ | exact (hf.alloc _).alloc _⟩
theorem iv_range (n : Int) (w : World) (hn : -1152921504606846976 ≤ n ∧ n ≤ 1152921504606846976) : Calls Tryz.prog 132 #[.agg #[.int .i64 2, .int .i64 n, .int .i64 0, .string ⟨#[]⟩, .slice none 0 0, .slice none 0 0]] w fun e w' => e = .returned (.bool false) ∧ Fr w.heap.size w w' := by
  have hf := Fr.self w
  have Hi := Lib.hid (isInt_yes n hn)
  go_enter Tryz.func132, Tryz.ntmps132
  go_wp2_with (go_at_call 163; refine (Hi.out _).mono ?_; rintro e w' ⟨rfl, rfl⟩)
  go_ret
  exact ⟨rfl, by first | exact hf.alloc _ | exact (hf.alloc _).alloc _⟩
theorem iv_long (n : Int) (w : World) : Calls Tryz.prog 133 #[.agg #[.int .i64 2, .int .i64 n, .int .i64 0, .string ⟨#[]⟩, .slice none 0 0, .slice none 0 0]] w fun e w' => e = .returned (.bool false) ∧ Fr w.heap.size w w' := by
  have hf := Fr.self w
  go_enter Tryz.func133, Tryz.ntmps133
  go_wp2_with fail
  go_ret
  exact ⟨rfl, by first | exact hf.alloc _ | exact (hf.alloc _).alloc _⟩
theorem iv_shape (n : Int) (w : World) : Calls Tryz.prog 134 #[.agg #[.int .i64 2, .int .i64 n, .int .i64 0, .string ⟨#[]⟩, .slice none 0 0, .slice none 0 0]] w fun e w' => e = .returned (.bool false) ∧ Fr w.heap.size w w' := by
  have hf := Fr.self w
  go_enter Tryz.func134, Tryz.ntmps134
  go_wp2_with fail
  go_ret
  exact ⟨rfl, by first | exact hf.alloc _ | exact (hf.alloc _).alloc _⟩
theorem iv_chars (n : Int) (w : World) : Calls Tryz.prog 135 #[.agg #[.int .i64 2, .int .i64 n, .int .i64 0, .string ⟨#[]⟩, .slice none 0 0, .slice none 0 0]] w fun e w' => e = .returned (.bool false) ∧ Fr w.heap.size w w' := by
  have hf := Fr.self w
  go_enter Tryz.func135, Tryz.ntmps135
  go_wp2_with fail
  go_ret
  exact ⟨rfl, by first | exact hf.alloc _ | exact (hf.alloc _).alloc _⟩
theorem iv_order (n : Int) (w : World) : Calls Tryz.prog 138 #[.agg #[.int .i64 2, .int .i64 n, .int .i64 0, .string ⟨#[]⟩, .slice none 0 0, .slice none 0 0]] w fun e w' => e = .returned (.bool false) ∧ Fr w.heap.size w w' := by
  have hf := Fr.self w
  go_enter Tryz.func138, Tryz.ntmps138
  go_wp2_with fail
  go_ret
  exact ⟨rfl, by first | exact hf.alloc _ | exact (hf.alloc _).alloc _⟩
theorem iv_names (n : Int) (w : World) : Calls Tryz.prog 136 #[.agg #[.int .i64 2, .int .i64 n, .int .i64 0, .string ⟨#[]⟩, .slice none 0 0, .slice none 0 0]] w fun e w' => e = .returned (.bool false) ∧ Fr w.heap.size w w' := by
  have hf := Fr.self w
  go_enter Tryz.func136, Tryz.ntmps136
  go_wp2_with fail
  refine wp_loop_rounds 1 ?_
  rw [rounds_succ]
  go_wp2_with fail
  go_ret
  exact ⟨rfl, by first | exact hf.alloc _ | exact (hf.alloc _).alloc _⟩
theorem iv_twice (n : Int) (w : World) : Calls Tryz.prog 137 #[.agg #[.int .i64 2, .int .i64 n, .int .i64 0, .string ⟨#[]⟩, .slice none 0 0, .slice none 0 0]] w fun e w' => e = .returned (.bool false) ∧ Fr w.heap.size w w' := by
  have hf := Fr.self w
  go_enter Tryz.func137, Tryz.ntmps137
  go_wp2_with fail
  refine wp_loop_rounds 1 ?_
  rw [rounds_succ]
  go_wp2_with fail
  go_ret
  exact ⟨rfl, by first | exact hf.alloc _ | exact (hf.alloc _).alloc _⟩
/-- The rules for a whole number, none of which is broken. -/
def ivRules (n : Int) : List Ru := [⟨5, 131, .agg #[.int .i64 2, .int .i64 n, .int .i64 0, .string ⟨#[]⟩, .slice none 0 0, .slice none 0 0], false⟩, ⟨3, 132, .agg #[.int .i64 2, .int .i64 n, .int .i64 0, .string ⟨#[]⟩, .slice none 0 0, .slice none 0 0], false⟩, ⟨2, 133, .agg #[.int .i64 2, .int .i64 n, .int .i64 0, .string ⟨#[]⟩, .slice none 0 0, .slice none 0 0], false⟩, ⟨6, 134, .agg #[.int .i64 2, .int .i64 n, .int .i64 0, .string ⟨#[]⟩, .slice none 0 0, .slice none 0 0], false⟩, ⟨17, 135, .agg #[.int .i64 2, .int .i64 n, .int .i64 0, .string ⟨#[]⟩, .slice none 0 0, .slice none 0 0], false⟩, ⟨7, 136, .agg #[.int .i64 2, .int .i64 n, .int .i64 0, .string ⟨#[]⟩, .slice none 0 0, .slice none 0 0], false⟩, ⟨13, 137, .agg #[.int .i64 2, .int .i64 n, .int .i64 0, .string ⟨#[]⟩, .slice none 0 0, .slice none 0 0], false⟩, ⟨14, 138, .agg #[.int .i64 2, .int .i64 n, .int .i64 0, .string ⟨#[]⟩, .slice none 0 0, .slice none 0 0], false⟩]
theorem ivRules_ok (n : Int) : firstOf (ivRules n) = 0 := rfl
set_option maxRecDepth 100000 in
set_option maxHeartbeats 1000000 in
theorem iv_own (n : Int) (hn : -1152921504606846976 ≤ n ∧ n ≤ 1152921504606846976) (w : World) (hp : PartInt w) :
    Calls Tryz.prog 105 #[.agg #[.int .i64 2, .int .i64 n, .int .i64 0, .string ⟨#[]⟩, .slice none 0 0, .slice none 0 0]] w fun e w' => e = .returned (.int .i64 0) ∧ Fr w.heap.size w w' := by
  have Hp := Lib.hid hp
  have hf := Fr.self w
  clear hp
  go_enter Tryz.func105, Tryz.ntmps105
  go_wp2_with fail
  obtain ⟨W, hW⟩ : ∃ W, W = (w.alloc (.cells #[.int .i64 2, .int .i64 n, .int .i64 0, .string ⟨#[]⟩, .slice none 0 0, .slice none 0 0] 44)).alloc (.cells #[.int .i64 2, .int .i64 n, .int .i64 0, .string ⟨#[]⟩, .slice none 0 0, .slice none 0 0] 157) := ⟨_, rfl⟩
  rw [← hW]
  have hz : w.heap.size + 1 + 1 = W.heap.size := by rw [hW]; simp
  have hfW : Fr w.heap.size w W := by rw [hW]; exact (hf.alloc _).alloc _
  rw [hz]
  clear hW hz
  refine (firstBroken_new (ivRules n) W 8 _ rfl (by show 8 ≤ 100; decide) ?ent ?calls).mono ?rest
  case ent =>
    intro r hr W
    simp only [ivRules, List.mem_cons, List.not_mem_nil, or_false] at hr
    rcases hr with rfl | rfl | rfl | rfl | rfl | rfl | rfl | rfl <;> rfl
  case calls =>
    intro r hr W2 hf2
    have hp2 := Hp.out.keep ((hfW.trans hf2).2)
    simp only [ivRules, List.mem_cons, List.not_mem_nil, or_false] at hr
    rcases hr with rfl | rfl | rfl | rfl | rfl | rfl | rfl | rfl
    · exact iv_foreign n W2 hp2
    · exact iv_range n W2 hn
    · exact iv_long n W2
    · exact iv_shape n W2
    · exact iv_chars n W2
    · exact iv_names n W2
    · exact iv_twice n W2
    · exact iv_order n W2
  case rest =>
    rintro e w3 ⟨rfl, hf3⟩
    rw [ivRules_ok]
    go_wp2_with fail
    go_ret
    exact ⟨rfl, hfW.trans hf3⟩
set_option maxRecDepth 20000 in
theorem iv_error (n : Int) (hn : -1152921504606846976 ≤ n ∧ n ≤ 1152921504606846976) (w : World) (hp : PartInt w) :
    Calls Tryz.prog 80 #[.agg #[.int .i64 2, .int .i64 n, .int .i64 0, .string ⟨#[]⟩, .slice none 0 0, .slice none 0 0]] w fun e w' => e = .returned (.int .i64 0) ∧ Fr w.heap.size w w' := by
  have hf := (Fr.self w).alloc (.cells #[.int .i64 2, .int .i64 n, .int .i64 0, .string ⟨#[]⟩, .slice none 0 0, .slice none 0 0] 44)
  have Ho := Lib.hid (iv_own n hn _ (hp.keep hf.2))
  clear hp hn
  go_enter Tryz.func80, Tryz.ntmps80
  go_wp2_with fail
  refine (Ho.out).mono ?_
  rintro e w1 ⟨rfl, hf1⟩
  have c5 : w1.cell? ⟨w.heap.size, 5, none⟩ = some (.slice none 0 0) := (hf1.cell (p := ⟨w.heap.size, 5, none⟩) (by simp)).trans (cell_new w _ _ 5)
  go_wp2_with fail
  refine wp_loop_rounds 1 ?_
  rw [rounds_succ]
  go_wp2_with fail
  go_ret
  exact ⟨rfl, hf.trans hf1⟩
theorem hasRoom_yes (g : Nat) (left depth : Int) (w : World) (h : w.cell? ⟨g, 0, none⟩ = some (.int .i64 left)) (hz : w.frozen? ⟨g, 0, none⟩ = false) (h0 : 1 ≤ left) (h1 : left ≤ 1000) (hd : 0 < depth) :
    Calls Tryz.prog 103 #[.pointer (some ⟨g, 0, none⟩), .int .i64 depth] w fun e w' => e = .returned (.bool true) ∧ w' = w.setCell ⟨g, 0, none⟩ (.int .i64 (left - 1)) := by
  go_enter Tryz.func103, Tryz.ntmps103
  go_wp2
  go_ret
  exact ⟨rfl, rfl⟩
theorem hasRoomNone (g : Nat) (depth : Int) (w : World) :
    Calls Tryz.prog 104 #[.pointer (some ⟨g, 0, none⟩), .slice none 0 0, .int .i64 depth] w fun e w' => e = .returned (.bool true) ∧ w = w' := by
  go_enter Tryz.func104, Tryz.ntmps104
  go_wp2
  refine wp_loop_rounds 1 ?_
  rw [rounds_succ]
  go_wp2
  go_ret
  exact ⟨rfl, rfl⟩
theorem iv_room (n : Int) (g : Nat) (w : World) (hg : g < w.heap.size) (h : w.cell? ⟨g, 0, none⟩ = some (.int .i64 120)) (hz : w.frozen? ⟨g, 0, none⟩ = false) :
    Calls Tryz.prog 79 #[.pointer (some ⟨g, 0, none⟩), .agg #[.int .i64 2, .int .i64 n, .int .i64 0, .string ⟨#[]⟩, .slice none 0 0, .slice none 0 0], .int .i64 8] w fun e w' => e = .returned (.bool true) ∧ Fr g w w' := by
  have hf := (Fr.refl (Nat.le_of_lt hg)).alloc (.cells #[.int .i64 2, .int .i64 n, .int .i64 0, .string ⟨#[]⟩, .slice none 0 0, .slice none 0 0] 44)
  have hfw := (Fr.self w).alloc (.cells #[.int .i64 2, .int .i64 n, .int .i64 0, .string ⟨#[]⟩, .slice none 0 0, .slice none 0 0] 44)
  have Hr := Lib.hid (hasRoom_yes g 120 8 _ ((hfw.cell (p := ⟨g, 0, none⟩) hg).trans h) ((hfw.frozen (p := ⟨g, 0, none⟩) hg).trans hz) (by omega) (by omega) (by omega))
  have Hn := Lib.hid (hasRoomNone g 7)
  clear h hz hfw
  go_enter Tryz.func79, Tryz.ntmps79
  go_wp2_with fail
  refine (Hr.out).mono ?_
  rintro e w1 ⟨rfl, hw1⟩
  have hf1 : Fr g w w1 := by rw [hw1]; exact hf.setCell (Nat.le_refl _) _
  have c5 : w1.cell? ⟨w.heap.size, 5, none⟩ = some (.slice none 0 0) := by
    rw [hw1, World.cell?_setCell_other _ _ _ _ (by simp <;> omega)]; exact cell_new w _ _ 5
  clear hw1
  go_wp2_with fail
  refine (Hn.out _).mono ?_
  rintro e w' ⟨rfl, rfl⟩
  go_wp2_with fail
  go_ret
  exact ⟨rfl, hf1⟩
theorem iv_form (n : Int) (hn : -1152921504606846976 ≤ n ∧ n ≤ 1152921504606846976) (w : World) (hp : PartInt w) :
    Calls Tryz.prog 50 #[.agg #[.int .i64 2, .int .i64 n, .int .i64 0, .string ⟨#[]⟩, .slice none 0 0, .slice none 0 0]] w fun e w' => e = .returned (.int .i64 0) ∧ Fr w.heap.size w w' := by
  have hf := ((Fr.self w).alloc (.cells #[.int .i64 2, .int .i64 n, .int .i64 0, .string ⟨#[]⟩, .slice none 0 0, .slice none 0 0] 44)).alloc (.cells #[.int .i64 120] 116)
  have hz : (w.alloc (.cells #[.int .i64 2, .int .i64 n, .int .i64 0, .string ⟨#[]⟩, .slice none 0 0, .slice none 0 0] 44)).heap.size = w.heap.size + 1 := by simp
  have hc := cell_new (w.alloc (.cells #[.int .i64 2, .int .i64 n, .int .i64 0, .string ⟨#[]⟩, .slice none 0 0, .slice none 0 0] 44)) #[.int .i64 120] 116 0
  have hfz : ((w.alloc (.cells #[.int .i64 2, .int .i64 n, .int .i64 0, .string ⟨#[]⟩, .slice none 0 0, .slice none 0 0] 44)).alloc (.cells #[.int .i64 120] 116)).frozen? ⟨(w.alloc (.cells #[.int .i64 2, .int .i64 n, .int .i64 0, .string ⟨#[]⟩, .slice none 0 0, .slice none 0 0] 44)).heap.size, 0, none⟩ = false := frozen_new _ _ _ 0
  rw [hz] at hc hfz
  have Hr := Lib.hid (iv_room n (w.heap.size + 1) _ (by simp) hc hfz)
  have c0 := fun k => cell_new w #[.int .i64 2, .int .i64 n, .int .i64 0, .string ⟨#[]⟩, .slice none 0 0, .slice none 0 0] 44 k
  have Hp := Lib.hid hp
  clear hp hc hfz hz
  go_enter Tryz.func50, Tryz.ntmps50
  go_wp2_with fail
  refine (Hr.out).mono ?_
  rintro e w1 ⟨rfl, hf1⟩
  have hb1 := hf1.2
  have hk : ∀ k, w1.cell? ⟨w.heap.size, k, none⟩ = #[.int .i64 2, .int .i64 n, .int .i64 0, .string ⟨#[]⟩, .slice none 0 0, .slice none 0 0][k]? := fun k => (hb1.cell (p := ⟨w.heap.size, k, none⟩) (by simp)).trans ((World.cell?_alloc_lt _ _ _ (by simp)).trans (c0 k))
  have k0 := hk 0; have k1 := hk 1; have k2 := hk 2; have k3 := hk 3; have k4 := hk 4; have k5 := hk 5
  have hfw : Fr w.heap.size w w1 := ⟨Nat.le_refl _, hf.2.trans (hb1.mono (by omega))⟩
  have Hv := Lib.hid (iv_error n hn w1 (Hp.out.keep hfw.2))
  clear hk hb1 c0 hf hn
  go_wp2_with fail
  refine (Hv.out).mono ?_
  rintro e w2 ⟨rfl, hf2⟩
  go_wp2_with fail
  go_ret
  exact ⟨rfl, hfw.trans hf2⟩
end Go.Proofs.YtgdedcdjfljcnaaGreatDoor
