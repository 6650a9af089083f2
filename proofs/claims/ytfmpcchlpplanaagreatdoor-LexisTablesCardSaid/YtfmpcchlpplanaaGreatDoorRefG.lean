/- Contracts on the reference: whether a list of strings has a string. Contracts on the reference: the reserved words. Contracts on the reference: a string put into an ascending list. Contracts on the reference: the symbols. -/
import Derived.Test.YtfmpcchlpplanaaGreatDoorToks
namespace Go.Proofs.YtfmpcchlpplanaaGreatDoor
open Go.RowKit

/-- A list of strings that lies in a block. -/
def Strs (w : World) (g : Nat) (ws : List (List UInt8)) : Prop := ∀ (j : Nat) (x : List UInt8), ws[j]? = some x → w.cell? ⟨g, j, none⟩ = some (.string ⟨x.toArray⟩)
def idxOf (x : List UInt8) : List (List UInt8) → Int
  | [] => -1
  | y :: t => if y = x then 0 else if idxOf x t = -1 then -1 else idxOf x t + 1
theorem idxOf_ge (x : List UInt8) : ∀ l, -1 ≤ idxOf x l ∧ idxOf x l < l.length
  | [] => by simp [idxOf]
  | y :: t => by
    have := idxOf_ge x t
    rw [idxOf]
    split
    · simp <;> omega
    · split <;> simp <;> omega
theorem idxOf_mem (x : List UInt8) : ∀ l, (idxOf x l ≠ -1) ↔ x ∈ l
  | [] => by simp [idxOf]
  | y :: t => by
    have h1 := idxOf_mem x t
    have h2 := idxOf_ge x t
    rw [idxOf]
    by_cases h : y = x
    · simp [h]
    · rw [if_neg h]
      by_cases h3 : idxOf x t = -1
      · rw [if_pos h3]; rw [h3] at h1
        simp at h1 ⊢
        exact ⟨fun e => h e.symm, h1⟩
      · rw [if_neg h3]
        have : idxOf x t + 1 ≠ -1 := by omega
        simp only [ne_eq, this, not_false_eq_true, true_iff]
        exact List.mem_cons_of_mem _ (h1.1 h3)
theorem rIndex_any (ws : List (List UInt8)) (g cap : Nat) (s : ByteArray) (l : List UInt8) (hs : s.data.toList = l) (w : World) (hst : Strs w g ws) (hlen : ws.length ≤ 10000) :
    Calls Tryz.prog 46 #[.slice (some ⟨g, 0, none⟩) ws.length cap, .string s] w fun e w' => e = .returned (.int .i64 (idxOf l ws)) ∧ w = w' := by
  have Hst := Lib.hid hst
  have Hs := Lib.hid hs; clear hs hst
  go_enter Tryz.func46, Tryz.ntmps46
  go_wp2_with fail
  go_loop [5] (fun i => ∃ k : Nat, k ≤ ws.length ∧ i = .int .i64 k ∧ Hid (idxOf l ws = if idxOf l (ws.drop k) = -1 then -1 else idxOf l (ws.drop k) + k)) (fun i => ws.length - (intOf i).toNat)
  case atStart => exact ⟨0, by omega, rfl, by unfold Hid; simp⟩
  case round =>
    obtain ⟨k, hk, rfl, HR⟩ := hrel
    rcases hd : ws.drop k with _ | ⟨x, t⟩
    · have hge : ws.length ≤ k := List.drop_eq_nil_iff.1 hd
      have Hr : Hid (idxOf l ws = -1) := by unfold Hid; rw [HR.out, hd]; rfl
      clear hd
      go_wp2_with fail
      go_ret
      exact ⟨by rw [Hr.out]; rfl, rfl⟩
    · have hlt : k < ws.length := by
        rcases Nat.lt_or_ge k ws.length with h | h
        · exact h
        · rw [List.drop_eq_nil_of_le h] at hd; cases hd
      have h1 := List.drop_eq_getElem_cons hlt
      rw [hd] at h1
      injection h1 with h2 h3
      have hcell : w.cell? ⟨g, k, none⟩ = some (.string ⟨x.toArray⟩) := Hst.out k x (by rw [List.getElem?_eq_getElem hlt, h2])
      have hbx : (ByteArray.mk x.toArray).toList = x := by rw [ByteArray.toList_eq]
      have hb : (x == s.toList) = decide (x = l) := by
        rw [ByteArray.toList_eq, Hs.out, Bool.eq_iff_iff]; simp
      have hge := idxOf_ge l t
      by_cases he : x = l
      · rw [decide_eq_true he] at hb
        have Hr : Hid (idxOf l ws = k) := by unfold Hid; rw [HR.out, hd, idxOf, if_pos he]; simp
        clear hd h2 h3 he hbx
        go_wp2_with fail
        go_ret
        exact ⟨by rw [Hr.out]; rfl, rfl⟩
      · rw [decide_eq_false he] at hb
        have Hn : Hid (idxOf l ws = if idxOf l (ws.drop (k + 1)) = -1 then -1 else idxOf l (ws.drop (k + 1)) + (k + 1 : Nat)) := by
          unfold Hid; rw [HR.out, hd, idxOf, if_neg he, ← h3]
          by_cases h4 : idxOf l t = -1
          · simp [h4]
          · rw [if_neg h4, if_neg h4, if_neg (by omega)]; omega
        clear hd h2 h3 he hbx hge
        go_wp2_with fail
        go_round
        case rel => exact ⟨k + 1, by omega, by go_num, Hn⟩
        case measure => simp [intOf] <;> omega
theorem hasText_any (ws : List (List UInt8)) (g cap : Nat) (s : ByteArray) (l : List UInt8) (hs : s.data.toList = l) (w : World) (hst : Strs w g ws) (hlen : ws.length ≤ 10000) :
    Calls Tryz.prog 30 #[.slice (some ⟨g, 0, none⟩) ws.length cap, .string s] w fun e w' => e = .returned (.bool (decide (l ∈ ws))) ∧ w = w' := by
  have Hi := Lib.hid (rIndex_any ws g cap s l hs w hst hlen)
  have hv : decide (l ∈ ws) = (idxOf l ws != -1) := by
    rw [Bool.eq_iff_iff, decide_eq_true_eq, bne_iff_ne]; exact (idxOf_mem l ws).symm
  have Hv := Lib.hid hv
  clear hs hst hv
  go_enter Tryz.func30, Tryz.ntmps30
  go_wp2_with (go_at_call 46; refine (Hi.out).mono ?_; rintro e w' ⟨rfl, rfl⟩)
  go_ret
  exact ⟨ret_bool Hv.out.symm, rfl⟩
end Go.Proofs.YtfmpcchlpplanaaGreatDoor
namespace Go.Proofs.YtfmpcchlpplanaaGreatDoor
open Go.RowKit

/-- Strings as cells. -/
def strCells (ws : List (List UInt8)) : List Value := ws.map fun x => .string ⟨x.toArray⟩
theorem strs_new (w : World) (cs : Array Value) (t : TypeId) (ws : List (List UInt8)) (h : cs.toList = strCells ws) : Strs (w.alloc (.cells cs t)) w.heap.size ws := by
  intro j x hx
  rw [cell_new, ← Array.getElem?_toList, h]
  unfold strCells
  rw [List.getElem?_map, hx]; rfl
set_option maxRecDepth 100000 in
set_option maxHeartbeats 4000000 in
theorem asnWords_any (w : World) : Calls Tryz.prog 24 #[] w fun e w' => e = .returned (.slice (some ⟨w.heap.size, 0, none⟩) 49 49) ∧ Strs w' w.heap.size asnW ∧ Fr w.heap.size w w' := by
  have hf := Fr.self w
  go_enter Tryz.func24, Tryz.ntmps24
  go_wp2
  go_ret
  exact ⟨rfl, strs_new _ _ _ asnW (by kernel_rfl), hf.alloc _⟩
theorem wpList_value {P : Program} {ops : Array Oper} {rest : List Oper} {o : Oper} {a : Act} {w w2 : World} {v : Value} {Q : Exit → Act → World → Prop} (hgd : o.guard = none)
    (hrun : (execOp a.eval o).run P w = .ok (.value v) w2) (h : wpList P ops Q rest (a.put o.dst v) w2) : wpList P ops Q (o :: rest) a w :=
  wpList_plain hgd fun K hK => by
    unfold Oper.wp
    rw [hrun, Oper.upon_value]
    exact hK _ _ h
set_option maxRecDepth 100000 in
set_option maxHeartbeats 4000000 in
theorem ttcnWords_any (w : World) : Calls Tryz.prog 25 #[] w fun e w' => e = .returned (.slice (some ⟨w.heap.size, 0, none⟩) 146 146) ∧ Strs w' w.heap.size ttcnW ∧ Fr w.heap.size w w' := by
  have hf := Fr.self w
  go_enter Tryz.func25, Tryz.ntmps25
  go_wp2_with (refine wpList_value (v := .slice (some ⟨w.heap.size, 0, none⟩) 146 146) (w2 := w.alloc (.cells (strCells ttcnW).toArray 9)) rfl (by kernel_rfl) ?_)
  go_ret
  exact ⟨rfl, strs_new _ _ _ ttcnW (by kernel_rfl), hf.alloc _⟩
/-- The reserved words, as the reference lays them. -/
theorem rWords_any (lang : Int) (hlang : lang = 0 ∨ lang = 1) (w : World) :
    Calls Tryz.prog 10 #[.int .i64 lang] w fun e w' => e = .returned (.slice (some ⟨w.heap.size, 0, none⟩) (wordsOf lang).length (wordsOf lang).length) ∧ Strs w' w.heap.size (wordsOf lang) ∧ Fr w.heap.size w w' := by
  have Ha := Lib.hid (asnWords_any w)
  have Ht := Lib.hid (ttcnWords_any w)
  rcases hlang with rfl | rfl
  · go_enter Tryz.func10, Tryz.ntmps10
    go_wp2_with (go_at_call 24; refine (Ha.out).mono ?_; rintro e w' ⟨rfl, hst, hf⟩)
    go_ret
    exact ⟨rfl, hst, hf⟩
  · go_enter Tryz.func10, Tryz.ntmps10
    go_wp2_with (go_at_call 25; refine (Ht.out).mono ?_; rintro e w' ⟨rfl, hst, hf⟩)
    go_ret
    exact ⟨rfl, hst, hf⟩
end Go.Proofs.YtfmpcchlpplanaaGreatDoor
namespace Go.Proofs.YtfmpcchlpplanaaGreatDoor
open Go.RowKit

/-- A list of strings, as a slice: nil, or from the head of a block on. -/
def StrRow (w : World) (v : Value) (ws : List (List UInt8)) : Prop :=
  (v = .slice none 0 0 ∧ ws = []) ∨ ∃ g cap, v = .slice (some ⟨g, 0, none⟩) ws.length cap ∧ g < w.heap.size ∧ ws.length ≤ cap ∧ 0 < ws.length ∧ Strs w g ws
def putAt (x : List UInt8) : List (List UInt8) → Nat
  | [] => 0
  | y :: t => if Op.bytesLess y x = true then putAt x t + 1 else 0
def putL (x : List UInt8) (ws : List (List UInt8)) : List (List UInt8) :=
  if ws[putAt x ws]? = some x then ws else ws.take (putAt x ws) ++ x :: ws.drop (putAt x ws)
theorem putAt_le (x : List UInt8) : ∀ ws, putAt x ws ≤ ws.length
  | [] => Nat.le_refl _
  | y :: t => by
    have := putAt_le x t
    rw [putAt]; split <;> simp <;> omega
theorem string_info : (Tryz.prog.info? 9).map (fun i => (i.zero, i.size, i.bytes)) = some (some (.string ⟨#[]⟩), 1, 16) := by kernel_rfl
theorem strs_fr {w w' : World} {g : Nat} {ws : List (List UInt8)} (h : Strs w g ws) (hg : g < w.heap.size) (hf : Below w.heap.size w w') : Strs w' g ws :=
  fun j x hx => (hf.cell (p := ⟨g, j, none⟩) hg).trans (h j x hx)
theorem strs_cells {w : World} {g : Nat} {ws : List (List UInt8)} (h : Strs w g ws) : ∀ (j : Nat) (u : Value), (strCells ws)[j]? = some u → w.cell? ⟨g, j, none⟩ = some u := by
  intro j u hu
  unfold strCells at hu
  rw [List.getElem?_map] at hu
  cases hx : ws[j]? with
  | none => rw [hx] at hu; cases hu
  | some x => rw [hx] at hu; cases hu; exact h j x hx
theorem strRow_own {w : World} {base n : Nat} {v : Value} {ws : List (List UInt8)} (h : w.ownsRow base 9 1 v n (strCells ws)) (h0 : 0 < ws.length) : StrRow w v ws := by
  have hn : ws.length = n := by have := h.1; unfold strCells at this; simpa using this
  rcases own_cases h with ⟨rfl, h0, h1⟩ | ⟨g, cap, rfl, -, hlt, hle, hc⟩
  · exact .inl ⟨rfl, by unfold strCells at h1; simpa using h1⟩
  · refine .inr ⟨g, cap, by rw [hn], hlt, by omega, h0, fun j x hx => hc j _ ?_⟩
    unfold strCells; rw [List.getElem?_map, hx]; rfl

section
variable {P : Program} {w : World} {ops : Array Oper} {o : Oper} {a : Act} {K : Act → World → Prop} {Q : Exit → Act → World → Prop} {E : Prop}
/-- Nothing is appended, at a step of a region that draws. -/
theorem step_append_none (hgd : o.guard = none) (s x : Operand) (t : TypeId) (ho : o.op = .call { callee := .builtin .append, args := #[s, x], argTypes := #[t, t] })
    (base : Nat) (e : TypeId) (i : TypeInfo) (size : Nat) (ht : P.underlying t = some (.slice e)) (hi : P.info? e = some i)
    (v : Value) (n : Nat) (xs : List Value) (hs : a.eval s = v) (hown : w.ownsRow base e size v n xs) (hx : a.eval x = .slice none 0 0)
    (h : K (a.put o.dst v) w) : if Region.wanted o (yielded ops a.tmps) = true then Oper.wp P o a w K Q else E := by
  have hw : Region.wanted o (yielded ops a.tmps) = true := by simp [Region.wanted, hgd]
  rw [if_pos hw]
  have hrun := run_append_owned_none (P := P) (w := w) base t o.type e i size ht hi v n xs hown
  unfold Oper.wp
  simp [execOp, ho, resolve, invoke, builtin, hs, hx, hrun, Result.andThen]
  exact h
/-- Perhaps nothing is appended, at a step of a region that draws. -/
theorem step_append_some (hgd : o.guard = none) (s x : Operand) (t : TypeId) (ho : o.op = .call { callee := .builtin .append, args := #[s, x], argTypes := #[t, t] })
    (base : Nat) (e : TypeId) (i : TypeInfo) (z : Value) (size bytes : Nat) (ht : P.underlying t = some (.slice e)) (hi : P.info? e = some i) (hz : i.zero = some z)
    (hsize : i.size = size) (hby : i.bytes = bytes) (hzs : z.cells.size = size) (hsz : 0 < size)
    (v : Value) (n : Nat) (xs : List Value) (hs : a.eval s = v) (hown : w.ownsRow base e size v n xs)
    (ad : Addr) (m c : Nat) (news : List Value) (hx : a.eval x = .slice (some ad) m c) (hl : news.length = m * size) (hnews : ∀ j u, news[j]? = some u → w.cell? (ad.add j) = some u) (h1 : ∀ u ∈ news, u.oneCell' = true)
    (h63 : n + m ≤ maxLen) (hbytes : (n + m) * bytes ≤ 140737488355328) (hbase : base ≤ w.heap.size)
    (h : ∀ v' w', w'.ownsRow base e size v' (n + m) (xs ++ news) → w.grownBy w' v.ownBlock → K (a.put o.dst v') w') : if Region.wanted o (yielded ops a.tmps) = true then Oper.wp P o a w K Q else E := by
  have hw : Region.wanted o (yielded ops a.tmps) = true := by simp [Region.wanted, hgd]
  rw [if_pos hw]
  exact wp_append_own w s x t ho base e i z size bytes ht hi hz hsize hby hzs hsz v n xs hs hown ad m c news hx hl hnews h1 h63 hbytes hbase fun v' w' h2 h3 _ => h v' w' h2 h3
end

theorem strCells_one (ws : List (List UInt8)) : ∀ u ∈ strCells ws, u.oneCell' = true := by
  intro u hu
  obtain ⟨x, -, rfl⟩ := List.mem_map.1 hu
  rfl
theorem take_news {w : World} {g : Nat} {ws : List (List UInt8)} (h : Strs w g ws) (hg : g < w.heap.size) {o : Obj} (k : Nat) : ∀ (j : Nat) (u : Value), (strCells (ws.take k))[j]? = some u → (w.alloc o).cell? (({ block := g, off := 0 } : Addr).add j) = some u := by
  intro j u hu
  rw [add_at, World.cell?_alloc_lt _ _ _ hg]
  refine strs_cells h j u ?_
  unfold strCells at hu ⊢
  rw [List.getElem?_map, List.getElem?_take] at hu
  rw [List.getElem?_map]
  split at hu
  · exact hu
  · cases hu
theorem drop_news {w w' : World} {g : Nat} {ws : List (List UInt8)} (h : Strs w g ws) (hg : g < w.heap.size) (k : Nat) (hb : Below w.heap.size w w') : ∀ (j : Nat) (u : Value), (strCells (ws.drop k))[j]? = some u → w'.cell? (({ block := g, off := k } : Addr).add j) = some u := by
  intro j u hu
  have e : (({ block := g, off := k } : Addr).add j) = ⟨g, k + j, none⟩ := by
    unfold Addr.add
    by_cases hj : j = 0 <;> simp [hj]
  rw [e, hb.cell (p := ⟨g, k + j, none⟩) hg]
  refine strs_cells h (k + j) u ?_
  unfold strCells at hu ⊢
  rw [List.getElem?_map, List.getElem?_drop] at hu
  rw [List.getElem?_map]
  exact hu
theorem empty_news {w0 w' : World} {a : Addr} {ws : List (List UInt8)} {k : Nat} (hk : k = ws.length) (_ : Below w0.heap.size w0 w') : ∀ (j : Nat) (u : Value), (strCells (ws.drop k))[j]? = some u → w'.cell? (a.add j) = some u := by
  intro j u hu
  rw [List.drop_eq_nil_of_le (by omega)] at hu
  simp [strCells] at hu

set_option maxRecDepth 100000 in
set_option maxHeartbeats 4000000 in
theorem put_any (v : Value) (ws : List (List UInt8)) (s : ByteArray) (x : List UInt8) (hs : s.data.toList = x) (w : World) (hv : StrRow w v ws) (hlen : ws.length ≤ 1000) :
    Calls Tryz.prog 26 #[v, .string s] w fun e w' => (∃ v', e = .returned v' ∧ StrRow w' v' (putL x ws)) ∧ Fr w.heap.size w w' := by
  have hf := Fr.self w
  obtain ⟨i0, hi0, hz0, hz1, hz2⟩ := info_parts string_info
  rcases hv with ⟨rfl, rfl⟩ | ⟨g, cap, rfl, hgl, hcap, hpos, hst⟩
  · go_enter Tryz.func26, Tryz.ntmps26
    go_wp2_with fail
    refine wp_loop_rounds 1 ?_
    rw [rounds_succ]
    go_wp2_with fail
    have hown0 : (w.alloc (Obj.cells #[] 9)).ownsRow w.heap.size 9 1 (.slice (some ⟨w.heap.size, 0, none⟩) 0 0) 0 [] :=
      ⟨rfl, .inr ⟨w.heap.size, 0, #[], rfl, Nat.le_refl _, heap_alloc_new _ _, Nat.le_refl _, Nat.zero_le _, rfl, rfl⟩⟩
    have hnews : ∀ (j : Nat) (u : Value), [Value.string s][j]? = some u → ((w.alloc (Obj.cells #[] 9)).alloc (Obj.cells #[.string s] 9)).drew.cell? (({ block := w.heap.size + 1, off := 0 } : Addr).add j) = some u := by
      intro j u h
      have := cells_new (w.alloc (Obj.cells #[] 9)) #[.string s] 9 j u h
      simpa using this
    have Hnews := Lib.hid hnews; have Hown0 := Lib.hid hown0; clear hnews hown0
    go_region_held3 (fun _ => True) (first | trivial)
      (first
        | (refine step_append_none (by rfl) _ _ _ (by rfl) w.heap.size 9 i0 1 Tryz.underlying23 hi0 _ _ _ (by rfl) hown3 (by rfl) ?_)
        | (refine step_append_lies _ (by rfl) _ _ _ (by rfl) w.heap.size 9 i0 _ 1 16 Tryz.underlying23 hi0 hz0 hz1 hz2 rfl (by omega) _ _ _ (by rfl) ((Hown0.out.alloc _).drew)
              ⟨w.heap.size + 1, 0, none⟩ 1 1 [.string s] (by rfl) (by rfl) Hnews.out (by simp [Value.oneCell'])
              (by omega) (by unfold maxLen; omega) (by omega) (by simp; omega) (w.heap.size + 2) (by simp) ?_; intro gg gcap w3 hown3 hg3 hat hlt3))
    have hfr3 : Fr w.heap.size w w3 := ((hf.alloc _).alloc _).drew.grown hg3 (fun k hk => by simp [Value.ownBlock] at hk; omega)
    go_wp2_with fail
    go_ret
    exact ⟨⟨_, rfl, strRow_own (by rw [← hs]; exact hown3) (by simp [putL, putAt])⟩, hfr3⟩
  · have Hst := Lib.hid hst; clear hst
    go_enter Tryz.func26, Tryz.ntmps26
    go_wp2_with fail
    go_loop [5] (fun i => ∃ k : Nat, k ≤ ws.length ∧ i = .int .i64 k ∧ Hid (putAt x ws = putAt x (ws.drop k) + k)) (fun i => ws.length - (intOf i).toNat)
    case atStart => exact ⟨0, by omega, rfl, by unfold Hid; simp⟩
    case round =>
      obtain ⟨k, hk, rfl, HR⟩ := hrel
      have hcell : ∀ y, ws[k]? = some y → w.cell? ⟨g, k, none⟩ = some (.string ⟨y.toArray⟩) := fun y h => Hst.out k y h
      have hxl : s.toList = x := by rw [ByteArray.toList_eq, hs]
      rcases hd : ws.drop k with _ | ⟨y, t⟩
      · have hkn : ws.length ≤ k := List.drop_eq_nil_iff.1 hd
        have hv : putL x ws = ws.take k ++ [x] := by
          have hp : putAt x ws = k := by rw [HR.out, hd, putAt]; omega
          unfold putL; rw [hp, List.getElem?_eq_none (by omega), hd]; rfl
        have Hv := Lib.hid hv
        clear hd hcell hxl hv
        by_cases hck : cap = k
        · subst hck
          have hown0 : (w.alloc (Obj.cells #[] 9)).ownsRow w.heap.size 9 1 (.slice (some ⟨w.heap.size, 0, none⟩) 0 0) 0 [] :=
            ⟨rfl, .inr ⟨w.heap.size, 0, #[], rfl, Nat.le_refl _, heap_alloc_new _ _, Nat.le_refl _, Nat.zero_le _, rfl, rfl⟩⟩
          go_wp2_with (at_builtin; refine wpList_append_own _ rfl _ _ 23 rfl w.heap.size 9 i0 _ 1 16 Tryz.underlying23 hi0 hz0 hz1 hz2 rfl (by decide) _ _ _ rfl hown0 ⟨g, 0, none⟩ cap cap (strCells (ws.take cap)) rfl (by rw [strCells, List.length_map, List.length_take]; omega) (take_news Hst.out hgl cap) (strCells_one _) (by unfold maxLen; omega) (by omega) (by simp) ?_)
          intro v1 w1 hown1 hg1 _
          have hfr1 : Fr w.heap.size w w1 := (hf.alloc _).grown hg1 (fun cap hk => by simp [Value.ownBlock] at hk; omega)
          go_wp2_with fail
          have hlt2 := fun g => own_lt hown1 (g := g)
          have hnews : ∀ (j : Nat) (u : Value), [Value.string s][j]? = some u → (w1.alloc (Obj.cells #[.string s] 9)).drew.cell? (({ block := w1.heap.size, off := 0 } : Addr).add j) = some u := by
            intro j u h
            have := cells_new w1 #[.string s] 9 j u h
            simpa using this
          have Hnews := Lib.hid hnews; have Hown1 := Lib.hid hown1; clear hnews hown0 hg1
          have hk0 : (0 : Int) ≤ (cap : Int) := by omega
          have hk1 : (cap : Int) ≤ (ws.length : Int) := by omega
          have hk2 : (ws.length : Int) ≤ (cap : Int) := by omega
          go_region_held3 (fun _ => True) (first | trivial)
            (first
              | (refine step_append_lies _ (by rfl) _ _ _ (by rfl) w.heap.size 9 i0 _ 1 16 Tryz.underlying23 hi0 hz0 hz1 hz2 rfl (by omega) _ _ _ (by rfl) ((Hown1.out.alloc _).drew)
                  ⟨w1.heap.size, 0, none⟩ 1 1 [.string s] (by rfl) (by rfl) Hnews.out (by simp [Value.oneCell'])
                  (by omega) (by unfold maxLen; omega) (by omega) (by have := hfr1.le; simp; omega) (w1.heap.size + 1) (by simp) ?_; intro gg gcap w3 hown3 hg3 hat hlt3)
              | (refine step_append_some (by rfl) _ _ _ (by rfl) w.heap.size 9 i0 _ 1 16 Tryz.underlying23 hi0 hz0 hz1 hz2 rfl (by omega) _ _ _ (by rfl) hown3
                  _ 0 _ [] (by rfl) (by rfl) (by intro j u h; simp at h) (by simp)
                  (by unfold maxLen; omega) (by omega) (by have := ((hfr1.alloc _).drew.grown hg3 (fun g hg => (hlt2 g hg).1)).le; omega) ?_; intro v4 w4 hown4 hg4))
          have hfr3 : Fr w.heap.size w w3 := (hfr1.alloc _).drew.grown hg3 (fun g hg => (hlt2 g hg).1)
          have hfr4 : Fr w.heap.size w w4 := hfr3.grown hg4 (fun g hg => (own_lt hown3 hg).1)
          have Hown4 := Lib.hid hown4; clear hown4 hown3 hg3 hg4 hat hlt3 hlt2
          go_wp2_with fail
          go_ret
          exact ⟨⟨_, rfl, by rw [Hv.out]; exact strRow_own (by have := Hown4.out; simpa [strCells, ← hs] using this) (by rw [List.length_append, List.length_cons]; omega)⟩, hfr4⟩
        · have hk9 : k ≤ ws.length := hk
          have hown0 : (w.alloc (Obj.cells #[] 9)).ownsRow w.heap.size 9 1 (.slice (some ⟨w.heap.size, 0, none⟩) 0 0) 0 [] :=
            ⟨rfl, .inr ⟨w.heap.size, 0, #[], rfl, Nat.le_refl _, heap_alloc_new _ _, Nat.le_refl _, Nat.zero_le _, rfl, rfl⟩⟩
          go_wp2_with (at_builtin; refine wpList_append_own _ rfl _ _ 23 rfl w.heap.size 9 i0 _ 1 16 Tryz.underlying23 hi0 hz0 hz1 hz2 rfl (by decide) _ _ _ rfl hown0 ⟨g, 0, none⟩ k cap (strCells (ws.take k)) rfl (by rw [strCells, List.length_map, List.length_take]; omega) (take_news Hst.out hgl k) (strCells_one _) (by unfold maxLen; omega) (by omega) (by simp) ?_)
          intro v1 w1 hown1 hg1 _
          have hfr1 : Fr w.heap.size w w1 := (hf.alloc _).grown hg1 (fun k hk => by simp [Value.ownBlock] at hk; omega)
          go_wp2_with fail
          have hlt2 := fun g => own_lt hown1 (g := g)
          have hnews : ∀ (j : Nat) (u : Value), [Value.string s][j]? = some u → (w1.alloc (Obj.cells #[.string s] 9)).drew.cell? (({ block := w1.heap.size, off := 0 } : Addr).add j) = some u := by
            intro j u h
            have := cells_new w1 #[.string s] 9 j u h
            simpa using this
          have Hnews := Lib.hid hnews; have Hown1 := Lib.hid hown1; clear hnews hown0 hg1
          have hk0 : (0 : Int) ≤ (k : Int) := by omega
          have hk1 : (k : Int) ≤ (ws.length : Int) := by omega
          have hk2 : (ws.length : Int) ≤ (cap : Int) := by omega
          go_region_held3 (fun _ => True) (first | trivial)
            (first
              | (refine step_append_lies _ (by rfl) _ _ _ (by rfl) w.heap.size 9 i0 _ 1 16 Tryz.underlying23 hi0 hz0 hz1 hz2 rfl (by omega) _ _ _ (by rfl) ((Hown1.out.alloc _).drew)
                  ⟨w1.heap.size, 0, none⟩ 1 1 [.string s] (by rfl) (by rfl) Hnews.out (by simp [Value.oneCell'])
                  (by omega) (by unfold maxLen; omega) (by omega) (by have := hfr1.le; simp; omega) (w1.heap.size + 1) (by simp) ?_; intro gg gcap w3 hown3 hg3 hat hlt3)
              | (refine step_append_some (by rfl) _ _ _ (by rfl) w.heap.size 9 i0 _ 1 16 Tryz.underlying23 hi0 hz0 hz1 hz2 rfl (by omega) _ _ _ (by rfl) hown3
                  _ 0 _ [] (by rfl) (by rfl) (by intro j u h; simp at h) (by simp)
                  (by unfold maxLen; omega) (by omega) (by have := ((hfr1.alloc _).drew.grown hg3 (fun g hg => (hlt2 g hg).1)).le; omega) ?_; intro v4 w4 hown4 hg4))
          have hfr3 : Fr w.heap.size w w3 := (hfr1.alloc _).drew.grown hg3 (fun g hg => (hlt2 g hg).1)
          have hfr4 : Fr w.heap.size w w4 := hfr3.grown hg4 (fun g hg => (own_lt hown3 hg).1)
          have Hown4 := Lib.hid hown4; clear hown4 hown3 hg3 hg4 hat hlt3 hlt2
          go_wp2_with fail
          go_ret
          exact ⟨⟨_, rfl, by rw [Hv.out]; exact strRow_own (by have := Hown4.out; simpa [strCells, ← hs] using this) (by rw [List.length_append, List.length_cons]; omega)⟩, hfr4⟩
      · have hlt : k < ws.length := by
          rcases Nat.lt_or_ge k ws.length with h | h
          · exact h
          · rw [List.drop_eq_nil_of_le h] at hd; cases hd
        have h1 := List.drop_eq_getElem_cons hlt
        rw [hd] at h1
        injection h1 with h2 h3
        have hwk : ws[k]? = some y := by rw [List.getElem?_eq_getElem hlt, h2]
        have hc := hcell y hwk
        have hyl : (ByteArray.mk y.toArray).toList = y := by rw [ByteArray.toList_eq]
        cases hb : Op.bytesLess y x with
        | true =>
          have hb' : Op.bytesLess y s.toList = true := by rw [hxl]; exact hb
          have Hn : Hid (putAt x ws = putAt x (ws.drop (k + 1)) + (k + 1)) := by
            unfold Hid; rw [HR.out, hd, putAt, if_pos hb, ← h3]; omega
          clear hd h2 h3 hwk hcell hyl hb hxl
          go_wp2_with fail
          go_round
          case rel => exact ⟨k + 1, by omega, by go_num, Hn⟩
          case measure => simp [intOf] <;> omega
        | false =>
          have hb' : Op.bytesLess y s.toList = false := by rw [hxl]; exact hb
          have hp : putAt x ws = k := by rw [HR.out, hd, putAt, if_neg (by rw [hb]; decide)]; omega
          by_cases he : y = x
          · have hq : (y == s.toList) = true := by rw [hxl]; simp [he]
            have hv : putL x ws = ws := by unfold putL; rw [hp, hwk, if_pos (by rw [he])]
            have Hv := Lib.hid hv
            clear hd h2 h3 hwk hcell hyl hb hxl hv hp he
            go_wp2_with fail
            go_ret
            exact ⟨⟨_, rfl, by rw [Hv.out]; exact .inr ⟨g, cap, rfl, hgl, hcap, hpos, Hst.out⟩⟩, hf⟩
          · have hq : (y == s.toList) = false := by rw [hxl]; simp [he]
            have hv : putL x ws = ws.take k ++ x :: ws.drop k := by unfold putL; rw [hp, hwk, if_neg (fun h => he (Option.some.inj h))]
            have Hv := Lib.hid hv
            clear hd h2 h3 hwk hcell hyl hb hxl hv hp he
            have hown0 : (w.alloc (Obj.cells #[] 9)).ownsRow w.heap.size 9 1 (.slice (some ⟨w.heap.size, 0, none⟩) 0 0) 0 [] :=
              ⟨rfl, .inr ⟨w.heap.size, 0, #[], rfl, Nat.le_refl _, heap_alloc_new _ _, Nat.le_refl _, Nat.zero_le _, rfl, rfl⟩⟩
            have hck : ¬ cap = k := by omega
            go_wp2_with (at_builtin; refine wpList_append_own _ rfl _ _ 23 rfl w.heap.size 9 i0 _ 1 16 Tryz.underlying23 hi0 hz0 hz1 hz2 rfl (by decide) _ _ _ rfl hown0 ⟨g, 0, none⟩ k cap (strCells (ws.take k)) rfl (by rw [strCells, List.length_map, List.length_take]; omega) (take_news Hst.out hgl k) (strCells_one _) (by unfold maxLen; omega) (by omega) (by simp) ?_)
            intro v1 w1 hown1 hg1 _
            have hfr1 : Fr w.heap.size w w1 := (hf.alloc _).grown hg1 (fun k hk => by simp [Value.ownBlock] at hk; omega)
            go_wp2_with fail
            have hlt2 := fun g => own_lt hown1 (g := g)
            have hnews : ∀ (j : Nat) (u : Value), [Value.string s][j]? = some u → (w1.alloc (Obj.cells #[.string s] 9)).drew.cell? (({ block := w1.heap.size, off := 0 } : Addr).add j) = some u := by
              intro j u h
              have := cells_new w1 #[.string s] 9 j u h
              simpa using this
            have Hnews := Lib.hid hnews; have Hown1 := Lib.hid hown1; clear hnews hown0 hg1
            have hk0 : (0 : Int) ≤ (k : Int) := by omega
            have hk1 : (k : Int) ≤ (ws.length : Int) := by omega
            have hk2 : (ws.length : Int) ≤ (cap : Int) := by omega
            go_region_held3 (fun _ => True) (first | trivial)
              (first
                | (refine step_append_lies _ (by rfl) _ _ _ (by rfl) w.heap.size 9 i0 _ 1 16 Tryz.underlying23 hi0 hz0 hz1 hz2 rfl (by omega) _ _ _ (by rfl) ((Hown1.out.alloc _).drew)
                    ⟨w1.heap.size, 0, none⟩ 1 1 [.string s] (by rfl) (by rfl) Hnews.out (by simp [Value.oneCell'])
                    (by omega) (by unfold maxLen; omega) (by omega) (by have := hfr1.le; simp; omega) (w1.heap.size + 1) (by simp) ?_; intro gg gcap w3 hown3 hg3 hat hlt3)
                | (refine step_append_some (by rfl) _ _ _ (by rfl) w.heap.size 9 i0 _ 1 16 Tryz.underlying23 hi0 hz0 hz1 hz2 rfl (by omega) _ _ _ (by rfl) hown3
                    _ (ws.length - k) (cap - k) (strCells (ws.drop k)) (by rfl) (by rw [strCells, List.length_map, List.length_drop]; omega) (drop_news Hst.out hgl k (((hfr1.alloc _).drew.grown hg3 (fun g hg => (hlt2 g hg).1)).2)) (strCells_one _)
                    (by unfold maxLen; omega) (by omega) (by have := ((hfr1.alloc _).drew.grown hg3 (fun g hg => (hlt2 g hg).1)).le; omega) ?_; intro v4 w4 hown4 hg4))
            have hfr3 : Fr w.heap.size w w3 := (hfr1.alloc _).drew.grown hg3 (fun g hg => (hlt2 g hg).1)
            have hfr4 : Fr w.heap.size w w4 := hfr3.grown hg4 (fun g hg => (own_lt hown3 hg).1)
            have Hown4 := Lib.hid hown4; clear hown4 hown3 hg3 hg4 hat hlt3 hlt2
            go_wp2_with fail
            go_ret
            exact ⟨⟨_, rfl, by rw [Hv.out]; exact strRow_own (by have := Hown4.out; simpa [strCells, ← hs] using this) (by rw [List.length_append, List.length_cons]; omega)⟩, hfr4⟩
end Go.Proofs.YtfmpcchlpplanaaGreatDoor
namespace Go.Proofs.YtfmpcchlpplanaaGreatDoor
open Go.RowKit

/-- Strings put one by one. -/
def putAll (ws : List (List UInt8)) : List (List UInt8) := ws.foldl (fun a x => putL x a) []
theorem putL_length (x : List UInt8) (ws : List (List UInt8)) : (putL x ws).length ≤ ws.length + 1 := by
  have := putAt_le x ws
  unfold putL; split
  · omega
  · rw [List.length_append, List.length_cons, List.length_take, List.length_drop]; omega
theorem putAll_length (ws : List (List UInt8)) : ∀ k, (putAll (ws.take k)).length ≤ k
  | 0 => by simp [putAll]
  | k + 1 => by
    have ih := putAll_length ws k
    rw [List.take_add_one]
    cases h : ws[k]? with
    | none => simp [putAll] at ih ⊢; omega
    | some x =>
      have := putL_length x (putAll (ws.take k))
      simp [putAll, List.foldl_append] at ih this ⊢
      omega
theorem putAll_snoc (ws : List (List UInt8)) {k : Nat} {x : List UInt8} (h : ws[k]? = some x) : putAll (ws.take (k + 1)) = putL x (putAll (ws.take k)) := by
  rw [List.take_add_one, h]
  simp [putAll, List.foldl_append]

theorem strs_new2 (w : World) : Strs ((w.alloc (.cells (strCells ttcnS).toArray 9)).alloc (.cells (strCells asnS).toArray 9)) (w.heap.size + 1) asnS := by
  have h := strs_new (w.alloc (.cells (strCells ttcnS).toArray 9)) (strCells asnS).toArray 9 asnS rfl
  have e : (w.alloc (.cells (strCells ttcnS).toArray 9)).heap.size = w.heap.size + 1 := by simp
  rwa [e] at h

set_option maxRecDepth 100000 in
set_option maxHeartbeats 4000000 in
theorem symbols_any (lang : Int) (hlang : lang = 0 ∨ lang = 1) (w : World) :
    Calls Tryz.prog 11 #[.int .i64 lang] w fun e w' => (∃ v', e = .returned v' ∧ StrRow w' v' (putAll (symsOf lang))) ∧ Fr w.heap.size w w' := by
  have hf := Fr.self w
  rcases hlang with rfl | rfl
  · have Hst0 := Lib.hid (strs_new2 w)
    have hln : (symsOf 0).length = 24 := by kernel_rfl
    have Hln := Lib.hid hln; clear hln
    go_enter Tryz.func11, Tryz.ntmps11
    go_wp2_with fail
    go_loopw [4, 5] (fun v i wr => ∃ k : Nat, k ≤ 24 ∧ i = .int .i64 k ∧ Hid (StrRow wr v (putAll ((symsOf 0).take k))) ∧ Hid (Strs wr (w.heap.size + 1) (symsOf 0)) ∧ Fr w.heap.size w wr ∧ w.heap.size + 1 < wr.heap.size) (fun _ i _ => 24 - (intOf i).toNat)
    case atStart => exact ⟨0, by omega, by go_num, .inl ⟨rfl, rfl⟩, Hst0.out, (hf.alloc _).alloc _, by simp⟩
    case round =>
      obtain ⟨k, hk, rfl, HV, HS, hfr, hgl⟩ := hrel
      have hpl := putAll_length (symsOf 0) k
      by_cases hlt : k < 24
      · obtain ⟨x, hx⟩ : ∃ x, (symsOf 0)[k]? = some x := ⟨_, List.getElem?_eq_getElem (by rw [Hln.out]; exact hlt)⟩
        have hc := HS.out k x hx
        have hsn := putAll_snoc _ hx
        have hpu := put_any _ _ ⟨x.toArray⟩ x rfl wr HV.out (by omega)
        rw [← hsn] at hpu
        have Hpu := Lib.hid hpu
        clear hx hsn hpu
        go_wp2_with (go_at_call 26; refine Hpu.out.mono ?_; rintro e w2 ⟨⟨v2, rfl, hv2⟩, hf2⟩)
        have HV2 := Lib.hid hv2; clear hv2
        have HS2 : Hid (Strs w2 (w.heap.size + 1) (symsOf 0)) := strs_fr HS.out hgl hf2.2
        have hgl2 := hf2.2.size
        go_wp2_with fail
        go_roundw
        case rel => exact ⟨k + 1, by omega, by go_num, HV2, HS2, hfr.trans hf2, by omega⟩
        case measure => simp [intOf] <;> omega
      · have hv : StrRow wr u4 (putAll (symsOf 0)) := by have := HV.out; rwa [List.take_of_length_le (by rw [Hln.out]; omega)] at this
        have Hv := Lib.hid hv; clear hv
        go_wp2_with fail
        go_ret
        exact ⟨⟨_, rfl, Hv.out⟩, hfr⟩
  · have Hst0 := Lib.hid (strs_new w (strCells ttcnS).toArray 9 ttcnS rfl)
    have hln : (symsOf 1).length = 31 := by kernel_rfl
    have Hln := Lib.hid hln; clear hln
    go_enter Tryz.func11, Tryz.ntmps11
    go_wp2_with fail
    go_loopw [4, 5] (fun v i wr => ∃ k : Nat, k ≤ 31 ∧ i = .int .i64 k ∧ Hid (StrRow wr v (putAll ((symsOf 1).take k))) ∧ Hid (Strs wr (w.heap.size) (symsOf 1)) ∧ Fr w.heap.size w wr ∧ w.heap.size < wr.heap.size) (fun _ i _ => 31 - (intOf i).toNat)
    case atStart => exact ⟨0, by omega, by go_num, .inl ⟨rfl, rfl⟩, Hst0.out, hf.alloc _, by simp⟩
    case round =>
      obtain ⟨k, hk, rfl, HV, HS, hfr, hgl⟩ := hrel
      have hpl := putAll_length (symsOf 1) k
      by_cases hlt : k < 31
      · obtain ⟨x, hx⟩ : ∃ x, (symsOf 1)[k]? = some x := ⟨_, List.getElem?_eq_getElem (by rw [Hln.out]; exact hlt)⟩
        have hc := HS.out k x hx
        have hsn := putAll_snoc _ hx
        have hpu := put_any _ _ ⟨x.toArray⟩ x rfl wr HV.out (by omega)
        rw [← hsn] at hpu
        have Hpu := Lib.hid hpu
        clear hx hsn hpu
        go_wp2_with (go_at_call 26; refine Hpu.out.mono ?_; rintro e w2 ⟨⟨v2, rfl, hv2⟩, hf2⟩)
        have HV2 := Lib.hid hv2; clear hv2
        have HS2 : Hid (Strs w2 (w.heap.size) (symsOf 1)) := strs_fr HS.out hgl hf2.2
        have hgl2 := hf2.2.size
        go_wp2_with fail
        go_roundw
        case rel => exact ⟨k + 1, by omega, by go_num, HV2, HS2, hfr.trans hf2, by omega⟩
        case measure => simp [intOf] <;> omega
      · have hv : StrRow wr u4 (putAll (symsOf 1)) := by have := HV.out; rwa [List.take_of_length_le (by rw [Hln.out]; omega)] at this
        have Hv := Lib.hid hv; clear hv
        go_wp2_with fail
        go_ret
        exact ⟨⟨_, rfl, Hv.out⟩, hfr⟩
end Go.Proofs.YtfmpcchlpplanaaGreatDoor
