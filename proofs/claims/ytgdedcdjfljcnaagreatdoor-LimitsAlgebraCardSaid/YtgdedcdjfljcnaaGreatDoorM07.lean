/- Appending: laws of a walk's step for rows of the call's own, and for slices that have no room. The contract on the reference's edges. -/
import Derived.Test.YtgdedcdjfljcnaaGreatDoorM06
import Derived.ArgAppend
import Derived.Deep.AppendLies
namespace Go.Proofs.YtgdedcdjfljcnaaGreatDoor
open Go.RowKit

section
variable {P : Program} {w : World} {ops : Array Oper} {rest : List Oper} {o : Oper} {a : Act} {K : Act → World → Prop} {Q : Exit → Act → World → Prop} {E : Prop}
/-- The form of what an append gives. -/
def AppForm (w' : World) (base : Nat) (v v' : Value) (n m : Nat) : Prop := (v = .slice none 0 0 → m = 0 → v' = .slice none 0 0) ∧ (0 < n + m → ∃ g cap, v' = .slice (some ⟨g, 0, none⟩) (n + m) cap ∧ base ≤ g ∧ g < w'.heap.size ∧ n + m ≤ cap)
theorem grown_self (w : World) (r : Option Nat) : w.grownBy w r := ⟨rfl, rfl, rfl, Nat.le_refl _, fun _ _ _ => rfl⟩
/-- A source that may be nil. -/
theorem run_append_opt (t ty : TypeId) (base : Nat) (e : TypeId) (i : TypeInfo) (z : Value) (size bytes : Nat) (ht : P.underlying t = some (.slice e)) (hi : P.info? e = some i) (hz : i.zero = some z)
    (hsize : i.size = size) (hby : i.bytes = bytes) (hzs : z.cells.size = size) (hsz : 0 < size)
    (v : Value) (n : Nat) (xs : List Value) (hown : w.ownsRow base e size v n xs)
    (A : Option Addr) (m c : Nat) (news : List Value) (h0 : A = none → m = 0 ∧ c = 0) (hl : news.length = m * size) (hnews : ∀ ad, A = some ad → ∀ j u, news[j]? = some u → w.cell? (ad.add j) = some u) (h1 : ∀ u ∈ news, u.oneCell' = true)
    (h63 : n + m ≤ maxLen) (hbytes : (n + m) * bytes ≤ 140737488355328) (hbase : base ≤ w.heap.size) :
    ∃ v' w', (Builtin.append_ #[t, t] ty #[v, .slice A m c]).run P w = .ok v' w' ∧ w'.ownsRow base e size v' (n + m) (xs ++ news) ∧ w.grownBy w' v.ownBlock ∧ (v = .slice none 0 0 → m = 0 → v' = .slice none 0 0) ∧ (0 < n + m → ∃ g cap, v' = .slice (some ⟨g, 0, none⟩) (n + m) cap ∧ base ≤ g ∧ g < w'.heap.size ∧ n + m ≤ cap) := by
  have shape : ∀ (v' : Value) (w' : World), w'.ownsRow base e size v' (n + m) (xs ++ news) → 0 < n + m → ∃ g cap, v' = .slice (some ⟨g, 0, none⟩) (n + m) cap ∧ base ≤ g ∧ g < w'.heap.size ∧ n + m ≤ cap := fun v' w' h hp => by
    rcases own_cases h with ⟨-, hn, -⟩ | ⟨g, cap, rfl, hb, hlt, hc, -⟩
    · omega
    · exact ⟨g, cap, rfl, hb, hlt, hc⟩
  cases A with
  | none =>
    obtain ⟨rfl, rfl⟩ := h0 rfl
    obtain rfl : news = [] := List.eq_nil_of_length_eq_zero (by simpa using hl)
    have hrun := run_append_owned_none (P := P) (w := w) base t ty e i size ht hi v n xs hown
    have ho : w.ownsRow base e size v (n + 0) (xs ++ []) := by rw [List.append_nil]; exact hown
    exact ⟨v, w, hrun, ho, grown_self w _, fun h _ => h, shape v w ho⟩
  | some ad =>
    obtain ⟨v', w', hr, h2, h3, h4⟩ := run_append_own (P := P) w base t ty e i z size bytes ht hi hz hsize hby hzs hsz v n xs hown ad m c news hl (hnews ad rfl) h1 h63 hbytes hbase
    exact ⟨v', w', hr, h2, h3, fun hv hm => h4.2 ⟨hv, hm⟩, shape v' w' h2⟩
theorem wpList_append_opt (hgd : o.guard = none) (s x : Operand) (t : TypeId) (ho : o.op = .call { callee := .builtin .append, args := #[s, x], argTypes := #[t, t] })
    (base : Nat) (e : TypeId) (i : TypeInfo) (z : Value) (size bytes : Nat) (ht : P.underlying t = some (.slice e)) (hi : P.info? e = some i) (hz : i.zero = some z)
    (hsize : i.size = size) (hby : i.bytes = bytes) (hzs : z.cells.size = size) (hsz : 0 < size)
    (v : Value) (n : Nat) (xs : List Value) (hs : a.eval s = v) (hown : w.ownsRow base e size v n xs)
    (A : Option Addr) (m c : Nat) (news : List Value) (hx : a.eval x = .slice A m c) (h0 : A = none → m = 0 ∧ c = 0) (hl : news.length = m * size) (hnews : ∀ ad, A = some ad → ∀ j u, news[j]? = some u → w.cell? (ad.add j) = some u) (h1 : ∀ u ∈ news, u.oneCell' = true)
    (h63 : n + m ≤ maxLen) (hbytes : (n + m) * bytes ≤ 140737488355328) (hbase : base ≤ w.heap.size)
    (h : ∀ (v' : Value) (w' : World), w'.ownsRow base e size v' (n + m) (xs ++ news) → w.grownBy w' v.ownBlock → AppForm w' base v v' n m → wpList P ops Q rest (a.put o.dst v') w') : wpList P ops Q (o :: rest) a w := by
  refine wpList_plain hgd fun K hK => ?_
  obtain ⟨v', w', hr, h2, h3, h4, h5⟩ := run_append_opt (P := P) (w := w) t o.type base e i z size bytes ht hi hz hsize hby hzs hsz v n xs hown A m c news h0 hl hnews h1 h63 hbytes hbase
  unfold Oper.wp execOp
  simp only [ho, resolve, invoke, builtin, Sem.run_bind, Sem.run_pure, Result.andThen_ok, List.map_toArray, List.map_cons, List.map_nil, hs, hx, hr]
  exact hK _ _ (h v' w' h2 h3 ⟨h4, h5⟩)
/-- At a step of a region that draws: onto a row of the call's own, whatever the source. -/
theorem step_append_opt (hgd : o.guard = none) (s x : Operand) (t : TypeId) (ho : o.op = .call { callee := .builtin .append, args := #[s, x], argTypes := #[t, t] })
    (base : Nat) (e : TypeId) (i : TypeInfo) (z : Value) (size bytes : Nat) (ht : P.underlying t = some (.slice e)) (hi : P.info? e = some i) (hz : i.zero = some z)
    (hsize : i.size = size) (hby : i.bytes = bytes) (hzs : z.cells.size = size) (hsz : 0 < size)
    (v : Value) (n : Nat) (xs : List Value) (hs : a.eval s = v) (hown : w.ownsRow base e size v n xs)
    (A : Option Addr) (m c : Nat) (news : List Value) (hx : a.eval x = .slice A m c) (h0 : A = none → m = 0 ∧ c = 0) (hl : news.length = m * size) (hnews : ∀ ad, A = some ad → ∀ j u, news[j]? = some u → w.cell? (ad.add j) = some u) (h1 : ∀ u ∈ news, u.oneCell' = true)
    (hp : 0 < n + m) (h63 : n + m ≤ maxLen) (hbytes : (n + m) * bytes ≤ 140737488355328) (hbase : base ≤ w.heap.size)
    (h : ∀ g cap w', w'.ownsRow base e size (.slice (some ⟨g, 0, none⟩) (n + m) cap) (n + m) (xs ++ news) → w.grownBy w' v.ownBlock → base ≤ g → g < w'.heap.size → n + m ≤ cap → K (a.put o.dst (.slice (some ⟨g, 0, none⟩) (n + m) cap)) w') :
    if Region.wanted o (yielded ops a.tmps) = true then Oper.wp P o a w K Q else E := by
  have hw : Region.wanted o (yielded ops a.tmps) = true := by simp [Region.wanted, hgd]
  rw [if_pos hw]
  obtain ⟨v', w', hr, h2, h3, -, h5⟩ := run_append_opt (P := P) (w := w) t o.type base e i z size bytes ht hi hz hsize hby hzs hsz v n xs hown A m c news h0 hl hnews h1 h63 hbytes hbase
  obtain ⟨g, cap, rfl, hb, hlt, hc⟩ := h5 hp
  unfold Oper.wp execOp
  simp only [ho, resolve, invoke, builtin, Sem.run_bind, Sem.run_pure, Result.andThen_ok, List.map_toArray, List.map_cons, List.map_nil, hs, hx, hr]
  exact h g cap w' h2 h3 hb hlt hc
/-- At a step of a region that draws: onto a slice without room. -/
theorem step_append_full (hgd : o.guard = none) (s x : Operand) (t : TypeId) (ho : o.op = .call { callee := .builtin .append, args := #[s, x], argTypes := #[t, t] })
    (e : TypeId) (i : TypeInfo) (z : Value) (size bytes : Nat) (ht : P.underlying t = some (.slice e)) (hi : P.info? e = some i) (hz : i.zero = some z)
    (hsize : i.size = size) (hby : i.bytes = bytes) (hzs : z.cells.size = size) (hsz : 0 < size)
    (b : Addr) (n cap : Nat) (olds : List Value) (hs : a.eval s = .slice (some b) n cap) (hlo : olds.length = n * size) (holds : ∀ j u, olds[j]? = some u → w.cell? (b.add j) = some u)
    (ad : Addr) (m c : Nat) (news : List Value) (hx : a.eval x = .slice (some ad) m c) (hl : news.length = m * size) (hnews : ∀ j u, news[j]? = some u → w.cell? (ad.add j) = some u)
    (hg : cap < n + m) (h63 : n + m ≤ maxLen) (hbytes : (n + m) * bytes ≤ 140737488355328)
    (h : ∀ g cap' w', w'.ownsRow w.heap.size e size (.slice (some ⟨g, 0, none⟩) (n + m) cap') (n + m) (olds ++ news) → w.grownBy w' none → w.heap.size ≤ g → g < w'.heap.size → n + m ≤ cap' → K (a.put o.dst (.slice (some ⟨g, 0, none⟩) (n + m) cap')) w') :
    if Region.wanted o (yielded ops a.tmps) = true then Oper.wp P o a w K Q else E := by
  have hw : Region.wanted o (yielded ops a.tmps) = true := by simp [Region.wanted, hgd]
  rw [if_pos hw]
  obtain ⟨v', w', hr, h2, h3⟩ := run_append_arg_grows (P := P) w t o.type e i z size bytes ht hi hz hsize hby hzs hsz b n cap olds hlo holds ad m c news hl hnews hg h63 hbytes
  rcases own_cases h2 with ⟨-, hn, -⟩ | ⟨g, cap', rfl, hb, hlt, hc, -⟩
  · omega
  · unfold Oper.wp execOp
    simp only [ho, resolve, invoke, builtin, Sem.run_bind, Sem.run_pure, Result.andThen_ok, List.map_toArray, List.map_cons, List.map_nil, hs, hx, hr]
    exact h g cap' w' h2 h3 hb hlt hc
end

/-- A slice of numbers. -/
def intCells (l : List Int) : List Value := l.map fun n => .int .i64 n
theorem intCells_one (l : List Int) : ∀ u ∈ intCells l, u.oneCell' = true := by
  intro u hu
  obtain ⟨x, -, rfl⟩ := List.mem_map.1 hu
  rfl
theorem intCells_get {l : List Int} {j : Nat} {u : Value} (h : (intCells l)[j]? = some u) : ∃ n, l[j]? = some n ∧ u = .int .i64 n := by
  unfold intCells at h
  rw [List.getElem?_map] at h
  obtain ⟨n, hn, rfl⟩ := Option.map_eq_some_iff.1 h
  exact ⟨n, hn, rfl⟩
theorem intCells_at {l : List Int} {j : Nat} {n : Int} (h : l[j]? = some n) : (intCells l)[j]? = some (.int .i64 n) := by unfold intCells; rw [List.getElem?_map, h]; rfl
theorem intCells_length (l : List Int) : (intCells l).length = l.length := List.length_map ..
def IntRow (w : World) (v : Value) (l : List Int) : Prop :=
  (v = .slice none 0 0 ∧ l = []) ∨ ∃ g cap, v = .slice (some ⟨g, 0, none⟩) l.length cap ∧ g < w.heap.size ∧ l.length ≤ cap ∧ 0 < l.length ∧ ∀ j x, l[j]? = some x → w.cell? ⟨g, j, none⟩ = some (.int .i64 x)
theorem IntRow.keep {w w' : World} {v : Value} {l : List Int} (h : IntRow w v l) (hf : Below w.heap.size w w') : IntRow w' v l := by
  rcases h with h | ⟨g, cap, hv, hg, hc, hp, hcl⟩
  · exact .inl h
  · exact .inr ⟨g, cap, hv, Nat.lt_of_lt_of_le hg hf.size, hc, hp, fun j x hx => (hf.cell (p := ⟨g, j, none⟩) hg).trans (hcl j x hx)⟩
theorem int_info : (Tryz.prog.info? 3).map (fun i => (i.zero, i.size, i.bytes)) = some (some (.int .i64 0), 1, 8) := by kernel_rfl
theorem IntRow.of {w : World} {base n : Nat} {v : Value} {l : List Int} (h : w.ownsRow base 3 1 v n (intCells l)) (h0 : 0 < l.length) : IntRow w v l := by
  have hn : l.length = n := by have := h.1; rw [intCells_length] at this; simpa using this
  rcases own_cases h with ⟨rfl, -, h1⟩ | ⟨g, cap, rfl, -, hlt, hle, hc⟩
  · exact .inl ⟨rfl, by unfold intCells at h1; simpa using h1⟩
  · exact .inr ⟨g, cap, by rw [hn], hlt, by omega, h0, fun j x hx => hc j _ (intCells_at hx)⟩

/-- The place of a number among ascending ones, and these with it. -/
def posI (n : Int) : List Int → Nat
  | [] => 0
  | y :: t => if y < n then posI n t + 1 else 0
def insI (n : Int) (l : List Int) : List Int := if l[posI n l]? = some n then l else l.take (posI n l) ++ n :: l.drop (posI n l)
theorem insI_length (n : Int) (l : List Int) : (insI n l).length ≤ l.length + 1 := by
  unfold insI
  split
  · omega
  · rw [List.length_append, List.length_take, List.length_cons, List.length_drop]; omega
end Go.Proofs.YtgdedcdjfljcnaaGreatDoor
namespace Go.Proofs.YtgdedcdjfljcnaaGreatDoor
open Go.RowKit

/-- The numbers at which spans begin, or are over, put among others. -/
def edge1 (q : Nat) (out : List Int) (s : Sp) : List Int := if q = 0 then out else if q = 1 then insI s.lo out else insI (s.hi + 1) (insI s.lo out)
def edgesL (l : List Sp) : List Int := l.foldl (edge1 2) []
theorem edgesL_take {l : List Sp} {k : Nat} {s : Sp} (h : l[k]? = some s) : edgesL (l.take (k + 1)) = edge1 2 (edgesL (l.take k)) s := by
  unfold edgesL
  rw [List.take_add_one, h, List.foldl_append]; rfl
theorem edge1_length (out : List Int) (s : Sp) (q : Nat) : (edge1 q out s).length ≤ out.length + 2 := by
  unfold edge1
  split
  · omega
  · split
    · have := insI_length s.lo out; omega
    · have := insI_length s.lo out; have := insI_length (s.hi + 1) (insI s.lo out); omega
theorem edgesL_length (l : List Sp) (k : Nat) : (edgesL (l.take k)).length ≤ 2 * k := by
  induction k with
  | zero => simp [edgesL]
  | succ k ih =>
    cases h : l[k]? with
    | none => rw [List.take_add_one, h]; simp; omega
    | some s => rw [edgesL_take h]; have := edge1_length (edgesL (l.take k)) s 2; omega
theorem posI_drop_nil {n : Int} {l : List Int} {k : Nat} (h : posI n l = posI n (l.drop k) + k) (hk : l.length ≤ k) : posI n l = k := by
  rw [h, List.drop_eq_nil_of_le hk, posI]; omega
theorem posI_drop_cons {n y : Int} {l t : List Int} {k : Nat} (h : posI n l = posI n (l.drop k) + k) (hd : l.drop k = y :: t) (hy : ¬ y < n) : posI n l = k := by
  rw [h, hd, posI, if_neg hy]; omega
theorem posI_drop_next {n y : Int} {l t : List Int} {k : Nat} (h : posI n l = posI n (l.drop k) + k) (hd : l.drop k = y :: t) (hy : y < n) : posI n l = posI n (l.drop (k + 1)) + (k + 1) := by
  have h2 : l.drop (k + 1) = t := by
    have : (l.drop k).drop 1 = l.drop (k + 1) := by rw [List.drop_drop]
    rw [← this, hd]; rfl
  rw [h, hd, posI, if_pos hy, h2]; omega
theorem drop_cons_get {l t : List Int} {k : Nat} {y : Int} (h : l.drop k = y :: t) : l[k]? = some y := by
  have : (l.drop k)[0]? = some y := by rw [h]; rfl
  rwa [List.getElem?_drop, Nat.add_zero] at this
theorem insI_at {n : Int} {l : List Int} {k : Nat} (h : posI n l = k) (hne : l[k]? ≠ some n) : insI n l = l.take k ++ n :: l.drop k := by
  unfold insI; rw [h, if_neg hne]
theorem insI_same {n : Int} {l : List Int} {k : Nat} (h : posI n l = k) (he : l[k]? = some n) : insI n l = l := by
  unfold insI; rw [h, if_pos he]
theorem sp_add (b off j : Nat) : (({ block := b, off := off, spot := none } : Addr).add j) = ⟨b, off + j, none⟩ := by
  unfold Addr.add
  by_cases hj : j = 0 <;> simp [hj]
theorem own_news {w : World} {base : Nat} {e : TypeId} {size n g cap : Nat} {xs : List Value} (h : w.ownsRow base e size (.slice (some ⟨g, 0, none⟩) n cap) n xs) : ∀ j u, xs[j]? = some u → w.cell? (({ block := g, off := 0 } : Addr).add j) = some u := by
  intro j u hu
  rcases own_cases h with ⟨h1, -, -⟩ | ⟨g', cap', h1, -, -, -, hc⟩
  · cases h1
  · injection h1 with h1 h2 h3
    injection h1 with h1
    injection h1 with h1
    subst h1
    rw [add_at]; exact hc j u hu
theorem SpAt.empty {B : Nat} {w : World} {A : Option Addr} {l : List Sp} (h : SpAt B w A l) (hA : A = none) : l.length = 0 := by
  rcases h with rfl | ⟨b, off, h2, -⟩
  · rfl
  · rw [hA] at h2; cases h2
theorem SpAt.news {B : Nat} {w w' : World} {A : Option Addr} {l : List Sp} (h : SpAt B w A l) (hf : Below B w w') : ∀ ad, A = some ad → ∀ j u, (spCells l)[j]? = some u → w'.cell? (ad.add j) = some u := by
  intro ad hA j u hu
  rcases h with rfl | ⟨b, off, hA2, hb, hc⟩
  · simp [spCells] at hu
  · rw [hA] at hA2
    injection hA2 with hA2
    subst hA2
    rw [sp_add]
    exact (hf.cell (p := ⟨b, off + j, none⟩) hb).trans (hc j u hu)
theorem SpAt.of {w : World} {base n : Nat} {v : Value} {l : List Sp} (h : w.ownsRow base 55 2 v n (spCells l)) : ∃ A ca, v = .slice A l.length ca ∧ (A = none → ca = 0) ∧ SpAt w.heap.size w A l ∧ l.length = n ∧ (∀ ad, A = some ad → base ≤ ad.block) := by
  have hn : l.length = n := by have := h.1; rw [spCells_length] at this; omega
  rcases own_cases h with ⟨rfl, h0, h1⟩ | ⟨g, cap, rfl, hb, hlt, hle, hc⟩
  · have : l = [] := List.eq_nil_of_length_eq_zero (by omega)
    subst this
    exact ⟨none, 0, rfl, fun _ => rfl, .inl rfl, hn, fun ad h => by cases h⟩
  · refine ⟨_, cap, by rw [hn], fun h => (by cases h), .inr ⟨g, 0, rfl, hlt, fun j u hu => ?_⟩, hn, fun ad h => by injection h with h; subst h; exact hb⟩
    rw [Nat.zero_add]; exact hc j u hu

end Go.Proofs.YtgdedcdjfljcnaaGreatDoor
