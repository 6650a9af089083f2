/- The contract on how many tokens a law takes. The contract on tokens in memory of their own. An argument that is a slice of tokens, opened; what it gives for the contracts. -/
import Derived.Test.YtknbmnckegonlaaGreatDoorJoin
import Derived.Laws.AppendOwnNone
import Derived.Test.YtknbmnckegonlaaGreatDoorPost2
import Derived.Deep.Slices
import Derived.Deep.Strs
namespace Go.Proofs.YtknbmnckegonlaaGreatDoor
open Go.RowKit

def manyLen (n : Nat) : Bool := decide (60 < n ∧ n ≤ 1500 ∨ 1505 < n)
def longTok (k : Nat) (t : Tok) : Bool := decide (300 < t.text.length ∨ 60 < k ∧ 3 < t.text.length)
/-- No token from a place on is too long. -/
def fewFrom : Nat → List Tok → Bool
  | _, [] => true
  | k, t :: r => if longTok k t = true then false else fewFrom (k + 1) r
def fewB (ts : List Tok) : Bool := if manyLen ts.length = true then false else fewFrom 0 ts
set_option maxRecDepth 100000 in
set_option maxHeartbeats 2000000 in
theorem few_any (v : Value) (ts : List Tok) (w : World) (hrow : TokRow w w.heap.size v ts) (hln : ts.length ≤ 9223372036854775807) (htl : ∀ t ∈ ts, t.text.length ≤ 9223372036854775807) :
    Calls Tryz.prog 32 #[v] w fun e w' => e = .returned (.bool (fewB ts)) ∧ w = w' := by
  obtain ⟨A, cap, rfl, hA⟩ := hrow
  have hm : manyLen ts.length = decide (60 < ts.length ∧ ts.length ≤ 1500 ∨ 1505 < ts.length) := rfl
  by_cases hmany : 60 < ts.length ∧ ts.length ≤ 1500 ∨ 1505 < ts.length
  · have hv : fewB ts = false := by unfold fewB; rw [hm, decide_eq_true hmany, if_pos rfl]
    have Hv := Lib.hid hv
    clear hv hm hA htl
    rcases hmany with ⟨h1, h2⟩ | h1
    all_goals
      go_enter Tryz.func32, Tryz.ntmps32
      go_wp2_with fail
      all_goals first | (exfalso; omega) | skip
      all_goals go_ret
      all_goals exact ⟨by rw [Hv.out]; rfl, rfl⟩
  · have hv : fewB ts = fewFrom 0 ts := by unfold fewB; rw [hm, decide_eq_false hmany]; rfl
    have Hv := Lib.hid hv
    have HA := Lib.hid hA
    have Htl := Lib.hid htl
    have h1505 : ts.length ≤ 1505 := by omega
    have h60 : 60 < ts.length → 1500 < ts.length := by omega
    clear hv hm hA htl hmany
    go_enter Tryz.func32, Tryz.ntmps32
    rcases Nat.lt_or_ge 60 ts.length with h6 | h6
    all_goals
      first | (have h15 := h60 h6) | skip
      clear h60
      go_wp2_with fail
      go_loop [3] (fun i => ∃ k : Nat, k ≤ ts.length ∧ i = .int .i64 k ∧ Hid (fewFrom 0 ts = fewFrom k (ts.drop k))) (fun i => ts.length - (intOf i).toNat)
      case atStart => exact ⟨0, by omega, rfl, rfl⟩
      case round =>
        obtain ⟨k, hk, rfl, HR⟩ := hrel
        rcases hd : ts.drop k with _ | ⟨⟨tk, tt, tp⟩, r⟩
        · have hge : ts.length ≤ k := List.drop_eq_nil_iff.1 hd
          have Hr : Hid (fewB ts = true) := by unfold Hid; rw [Hv.out, HR.out, hd]; rfl
          clear hd
          go_wp2_with fail
          go_ret
          exact ⟨by rw [Hr.out]; rfl, rfl⟩
        · have hlt : k < ts.length := by
            rcases Nat.lt_or_ge k ts.length with h | h
            · exact h
            · rw [List.drop_eq_nil_of_le h] at hd; cases hd
          have h1 := List.drop_eq_getElem_cons hlt
          rw [hd] at h1
          injection h1 with h2 h3
          have ht : ts[k]? = some ⟨tk, tt, tp⟩ := by rw [List.getElem?_eq_getElem hlt, h2]
          obtain ⟨g, o, rfl, hgl, hc⟩ := HA.out.resolve_left (fun h => by rw [h] at hlt; simp at hlt)
          have g1 : w.cell? ⟨g, o + k * 3 + 1, none⟩ = some (.string ⟨tt.toArray⟩) := hc _ _ (tokCells_get ts k _ ht).2.1
          have hz : (ByteArray.mk tt.toArray).size = tt.length := by rw [ba_size]
          have hzb : tt.length ≤ 9223372036854775807 := Htl.out ⟨tk, tt, tp⟩ (List.mem_of_getElem? ht)
          have hlong : longTok k ⟨tk, tt, tp⟩ = decide (300 < tt.length ∨ 60 < k ∧ 3 < tt.length) := rfl
          by_cases hl : 300 < tt.length ∨ 60 < k ∧ 3 < tt.length
          · have Hr : Hid (fewB ts = false) := by unfold Hid; rw [Hv.out, HR.out, hd, fewFrom, hlong, decide_eq_true hl, if_pos rfl]
            clear hd ht hlong hc h2 h3 HA
            rcases hl with hl | ⟨hl, hl2⟩
            all_goals
              go_wp2_with fail
              all_goals first | (exfalso; omega) | skip
              all_goals go_ret
              all_goals exact ⟨by rw [Hr.out]; rfl, rfl⟩
          · have Hn : Hid (fewFrom 0 ts = fewFrom (k + 1) (ts.drop (k + 1))) := by unfold Hid; rw [HR.out, hd, fewFrom, hlong, decide_eq_false hl, if_neg (by simp), ← h3]
            clear hd ht hlong hc h2 h3 HA
            go_wp2_with fail
            all_goals first | (exfalso; omega) | skip
            all_goals go_round
            all_goals first | exact ⟨k + 1, by omega, by go_num, Hn⟩ | (simp [intOf] <;> omega)
end Go.Proofs.YtknbmnckegonlaaGreatDoor
namespace Go.Proofs.YtknbmnckegonlaaGreatDoor
open Go.RowKit

theorem tokCells_len : ∀ ts : List Tok, (tokCells ts).length = ts.length * 3
  | [] => rfl
  | t :: r => by
    show ([_, _, _] ++ tokCells r).length = (r.length + 1) * 3
    rw [List.length_append, tokCells_len r]; simp; omega
/-- Tokens as an argument holds them: none at all, or in a row. -/
def TokArg (w : World) (v : Value) (ts : List Tok) : Prop :=
  (v = .slice none 0 0 ∧ ts = []) ∨ ∃ ad cap, v = .slice (some ad) ts.length cap ∧ ∀ (j : Nat) (u : Value), (tokCells ts)[j]? = some u → w.cell? (ad.add j) = some u
set_option maxRecDepth 100000 in
theorem ownTokens_any (v : Value) (ts : List Tok) (w : World) (hv : TokArg w v ts) (hlen : ts.length ≤ 100000) :
    Calls Tryz.prog 34 #[v] w fun e w' => (∃ v', e = .returned v' ∧ w'.ownsRow w.heap.size 43 3 v' ts.length (tokCells ts)) ∧ Fr w.heap.size w w' := by
  have hf := (Fr.self w).alloc (.cells #[] 43)
  have hown : (w.alloc (.cells #[] 43)).ownsRow w.heap.size 43 3 (.slice (some ⟨w.heap.size, 0, none⟩) 0 0) 0 [] :=
    ⟨rfl, .inr ⟨w.heap.size, 0, #[], rfl, Nat.le_refl _, heap_alloc_new _ _, Nat.le_refl _, by decide, rfl, rfl⟩⟩
  obtain ⟨i0, hi0, hz0, hz1, hz2⟩ := info_parts token_info
  have Hown := Lib.hid hown; clear hown
  rcases hv with ⟨rfl, rfl⟩ | ⟨ad, cap, rfl, hc⟩
  · go_enter Tryz.func34, Tryz.ntmps34
    go_wp2_with (at_builtin; refine wpList_append_own_none rfl _ _ 33 rfl w.heap.size 43 i0 3 Tryz.underlying33 hi0 _ _ _ rfl Hown.out rfl ?_)
    go_ret
    exact ⟨⟨_, rfl, Hown.out⟩, hf⟩
  · have Hc := Lib.hid hc; clear hc
    have hcl := tokCells_len ts
    have h1 : ∀ u ∈ tokCells ts, u.oneCell' = true := by
      intro u hu
      unfold tokCells at hu
      rw [List.mem_flatMap] at hu
      obtain ⟨t, -, ht⟩ := hu
      simp at ht
      rcases ht with rfl | rfl | rfl <;> rfl
    have Hcl := Lib.hid hcl; have H1 := Lib.hid h1; clear hcl h1
    go_enter Tryz.func34, Tryz.ntmps34
    go_wp2_with (at_builtin; refine wpList_append_own _ rfl _ _ 33 rfl w.heap.size 43 i0 _ 3 32 Tryz.underlying33 hi0 hz0 hz1 hz2 rfl (by decide) _ _ _ rfl Hown.out ad ts.length cap (tokCells ts) rfl Hcl.out ?d1 H1.out ?d3 ?d4 ?d5 ?_)
    case d1 => exact fun j u hu => (hf.cell (block_lt_of_cell (Hc.out j u hu))).trans (Hc.out j u hu)
    case d3 => unfold maxLen; omega
    case d4 => omega
    case d5 => simp
    intro v' w3 hown3 hg3 _
    have hfr3 : Fr w.heap.size w w3 := hf.grown hg3 (fun g hg => by simp [Value.ownBlock] at hg; omega)
    have Hown3 := Lib.hid hown3
    clear hg3 hown3
    go_wp2_with fail
    go_ret
    exact ⟨⟨_, rfl, by have := Hown3.out; simpa using this⟩, hfr3⟩
end Go.Proofs.YtknbmnckegonlaaGreatDoor
namespace Go.Proofs.YtknbmnckegonlaaGreatDoor
open Go.ChangeShapes Go.WideShapes Go.ChangeAt Go.RowKit

theorem token_cells : Tryz.prog.cellsOf 43 = 3 := by kernel_rfl
theorem list_of {Q : Nat → Tok → Prop} : ∀ n, (∀ i, i < n → ∃ t, Q i t) → ∃ ts : List Tok, ts.length = n ∧ ∀ i t, ts[i]? = some t → Q i t
  | 0, _ => ⟨[], rfl, fun i t h => by simp at h⟩
  | n + 1, h => by
    obtain ⟨ts, h1, h2⟩ := list_of n (fun i hi => h i (by omega))
    obtain ⟨t, ht⟩ := h n (by omega)
    refine ⟨ts ++ [t], by simp [h1], fun i u hu => ?_⟩
    rw [List.getElem?_append] at hu
    split at hu
    · exact h2 i u hu
    · rename_i hi
      have : i = n := by
        rcases Nat.lt_or_ge (i - ts.length) 1 with h3 | h3
        · omega
        · rw [List.getElem?_eq_none (by simpa using h3)] at hu; cases hu
      subst this
      rw [h1, Nat.sub_self] at hu
      simp at hu
      subst hu
      exact ht
theorem tokCells_at : ∀ (ts : List Tok) (j : Nat) (u : Value), (tokCells ts)[j]? = some u → ∃ (i : Nat) (t : Tok), ts[i]? = some t ∧ (j = i * 3 ∧ u = .int .i64 t.kind ∨ j = i * 3 + 1 ∧ u = .string ⟨t.text.toArray⟩ ∨ j = i * 3 + 2 ∧ u = .int .i64 t.pos)
  | [], j, u, h => by simp [tokCells] at h
  | t :: r, j, u, h => by
    have e : tokCells (t :: r) = [Value.int .i64 t.kind, .string ⟨t.text.toArray⟩, .int .i64 t.pos] ++ tokCells r := rfl
    rw [e] at h
    match j, h with
    | 0, h => simp at h; exact ⟨0, t, rfl, .inl ⟨rfl, h.symm⟩⟩
    | 1, h => simp at h; exact ⟨0, t, rfl, .inr (.inl ⟨rfl, h.symm⟩)⟩
    | 2, h => simp at h; exact ⟨0, t, rfl, .inr (.inr ⟨rfl, h.symm⟩)⟩
    | j + 3, h =>
      rw [List.getElem?_append_right (by simp)] at h
      obtain ⟨i, t', h1, h2⟩ := tokCells_at r j u (by simpa using h)
      refine ⟨i + 1, t', by simpa using h1, ?_⟩
      rcases h2 with ⟨h2, h3⟩ | ⟨h2, h3⟩ | ⟨h2, h3⟩
      · exact .inl ⟨by omega, h3⟩
      · exact .inr (.inl ⟨by omega, h3⟩)
      · exact .inr (.inr ⟨by omega, h3⟩)
/-- Tokens as an argument holds them. -/
def TokIn (w : World) (v : Value) (ts : List Tok) : Prop :=
  ∃ A cap, v = .slice A ts.length cap ∧ (A = none → ts = [] ∧ cap = 0) ∧ (∀ a, A = some a → ∀ (j : Nat) (u : Value), (tokCells ts)[j]? = some u → w.cell? (a.add j) = some u) ∧ ts.length ≤ 9223372036854775807 ∧ ∀ t ∈ ts, t.text.length ≤ 9223372036854775807
theorem TokIn.arg {w : World} {v : Value} {ts : List Tok} (h : TokIn w v ts) : TokArg w v ts := by
  obtain ⟨A, cap, rfl, h1, h2, -, -⟩ := h
  cases A with
  | none => obtain ⟨rfl, rfl⟩ := h1 rfl; exact .inl ⟨rfl, rfl⟩
  | some a => exact .inr ⟨a, cap, rfl, h2 a rfl⟩
theorem TokIn.row {w : World} {v : Value} {ts : List Tok} (h : TokIn w v ts) : TokRow w w.heap.size v ts := by
  obtain ⟨A, cap, rfl, h1, h2, -, -⟩ := h
  refine ⟨A, cap, rfl, ?_⟩
  cases A with
  | none => exact .inl (h1 rfl).1
  | some a =>
    cases ts with
    | nil => exact .inl rfl
    | cons t r =>
      have h0 := h2 a rfl 0 (.int .i64 t.kind) rfl
      have ha : a.add 0 = a := by unfold Addr.add; rw [if_pos rfl]
      rw [ha] at h0
      have hs := World.cell?_spot h0
      have hb := block_lt_of_cell h0
      obtain ⟨b, off, sp⟩ := a
      simp only at hs
      subst hs
      refine .inr ⟨b, off, rfl, hb, fun j u hu => ?_⟩
      have := h2 _ rfl j u hu
      have e : (({ block := b, off := off, spot := none } : Addr).add j) = ⟨b, off + j, none⟩ := by
        unfold Addr.add
        by_cases hj : j = 0 <;> simp [hj]
      rwa [e] at this
set_option maxRecDepth 100000 in
/-- The opening. -/
theorem open_tokens {H : Type} {enc : TypeId × Value → H} {W : World} {base : Nat} {v : Value} {d : DataW H} {p : List MemPlace} (hv : Value.okWide Tryz.prog W .any base 33 v)
    (h : DataW.Trod enc Tryz.prog W 0 (fun _ => true) true 33 v d p) : ∃ ts, TokIn W v ts := by
  obtain ⟨fuel, hf⟩ := h
  obtain ⟨A, len, cap, rfl⟩ := okWide_slice Tryz.underlying33 hv
  rcases Go.Deep.open_slice Tryz.underlying33 hf with ⟨hcs, -⟩ | ⟨a, len', cap', m, n, D, Pl, hcs, -, hl, hm, hmm, -, hi⟩
  · have e : Value.slice A len cap = .slice none 0 0 := by simpa [Value.cells] using hcs
    injection e with e1 e2 e3
    subst e1; subst e2; subst e3
    refine ⟨[], none, 0, rfl, fun _ => ⟨rfl, rfl⟩, fun a h => ?_, Nat.zero_le _, fun t h => ?_⟩
    · exact absurd h (by simp)
    · exact absurd h (by simp)
  · have e : Value.slice A len cap = .slice (some a) len' cap' := by simpa [Value.cells] using hcs
    injection e with e1 e2 e3
    subst e1; subst e2; subst e3
    simp only [if_true] at hmm
    subst hmm
    rw [token_cells] at hi
    have key : ∀ i, i < len → ∃ t : Tok, W.cell? (a.add (i * 3)) = some (.int .i64 t.kind) ∧ W.cell? (a.add (i * 3 + 1)) = some (.string ⟨t.text.toArray⟩) ∧ W.cell? (a.add (i * 3 + 2)) = some (.int .i64 t.pos) ∧ t.text.length ≤ 9223372036854775807 := by
      intro i hil
      obtain ⟨cs', hc, ht⟩ := hi i (by omega)
      obtain ⟨-, hcl, hat⟩ := World.cells?_some hc
      obtain ⟨y0, y1, y2, k, -, -, t0, t1, t2⟩ := Go.Deep.trod_struct3 Tryz.underlying43 ht
      obtain ⟨c0, c1, c2, rfl⟩ : ∃ c0 c1 c2, cs' = [c0, c1, c2] := by
        match cs', hcl with
        | [c0, c1, c2], _ => exact ⟨c0, c1, c2, rfl⟩
      have q0 : Tryz.prog.cellsOf 3 = 1 := by kernel_rfl
      have q1 : Tryz.prog.cellsOf 9 = 1 := by kernel_rfl
      simp only [q0, q1] at t0 t1 t2
      obtain ⟨x, e0, -, -⟩ := DataW.trod_int Tryz.underlying3 t0
      obtain ⟨b, e1, -, wb⟩ := DataW.trod_string Tryz.underlying9 t1
      obtain ⟨z, e2, -, -⟩ := DataW.trod_int Tryz.underlying3 t2
      simp at e0 e1 e2
      subst e0; subst e1; subst e2
      have h0 := hat 0 (by omega)
      have h1 := hat 1 (by omega)
      have h2 := hat 2 (by omega)
      rw [Go.Deep.add_add] at h0 h1 h2
      refine ⟨⟨x, b.data.toList, z⟩, h0, ?_, h2, ?_⟩
      · have : (ByteArray.mk b.data.toList.toArray) = b := by cases b; simp
        simp only [this]; exact h1
      · rw [ba_size] at wb
        unfold maxLen at wb; simp only; omega
    obtain ⟨ts, hlen, hts⟩ := list_of len key
    refine ⟨ts, some a, m, by rw [hlen], (fun h => absurd h (by simp)), fun a' ha j u hu => ?_, ?_, fun t ht => ?_⟩
    · injection ha with ha
      subst ha
      obtain ⟨i, t, h1, h2⟩ := tokCells_at ts j u hu
      obtain ⟨g0, g1, g2, -⟩ := hts i t h1
      rcases h2 with ⟨rfl, rfl⟩ | ⟨rfl, rfl⟩ | ⟨rfl, rfl⟩
      · exact g0
      · exact g1
      · exact g2
    · unfold maxLen at hm; omega
    · obtain ⟨i, hi⟩ := List.mem_iff_getElem?.1 ht
      exact (hts i t hi).2.2.2
end Go.Proofs.YtknbmnckegonlaaGreatDoor
