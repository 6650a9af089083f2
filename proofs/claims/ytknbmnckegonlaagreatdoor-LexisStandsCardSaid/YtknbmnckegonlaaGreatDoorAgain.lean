/- Plain laws: tokens written with canonical spacing are read as the same tokens, and written again the same. No program is walked here. -/
import Derived.Test.YtknbmnckegonlaaGreatDoorStop
import Derived.Test.YtknbmnckegonlaaGreatDoorAlone
import Derived.Test.YtknbmnckegonlaaGreatDoorJoin
namespace Go.Proofs.YtknbmnckegonlaaGreatDoor

/-- The kinds and texts of the tokens of a text, from its beginning on. -/
def rd (lang : Int) : Nat → List UInt8 → List (Int × List UInt8)
  | 0, _ => []
  | _ + 1, [] => []
  | f + 1, c :: t => if (pieceOf lang (c :: t)).err ≠ 0 then [] else
      (if (pieceOf lang (c :: t)).kind < 7 then [((pieceOf lang (c :: t)).kind, (c :: t).take (pieceOf lang (c :: t)).len)] else []) ++ rd lang f ((c :: t).drop (pieceOf lang (c :: t)).len)
theorem rd_nil (lang : Int) : ∀ f, rd lang f [] = []
  | 0 => rfl
  | _ + 1 => rfl
theorem rd_pieces (lang : Int) (L : List UInt8) : ∀ (f a : Nat), ((pieces lang f (L.drop a) a).filter isTok).map (fun p => kt (tokOf L p)) = rd lang f (L.drop a)
  | 0, a => by cases L.drop a <;> rfl
  | f + 1, a => by
    cases hd : L.drop a with
    | nil => rfl
    | cons c t =>
      rw [pieces, rd]
      by_cases he : (pieceOf lang (c :: t)).err ≠ 0
      · rw [if_pos he, if_pos he]; rfl
      · rw [if_neg he, if_neg he]
        have ih := rd_pieces lang L f (a + (pieceOf lang (c :: t)).len)
        rw [← List.drop_drop, hd] at ih
        rw [← ih]
        by_cases hk : (pieceOf lang (c :: t)).kind < 7
        · rw [List.filter_cons_of_pos (by simpa [isTok] using hk), List.map_cons, if_pos hk]
          simp only [List.singleton_append, List.cons.injEq, and_true]
          simp only [kt, tokOf, hd]
          rw [Nat.add_sub_cancel_left]
        · rw [List.filter_cons_of_neg (by simpa [isTok] using hk), if_neg hk]; rfl
theorem out_rd {lang : Int} {l : List UInt8} (h : (readErr lang l).2 = 0) : (outToks lang l).map kt = rd lang l.length l := by
  have e : outPcs lang l = pieces lang l.length l 0 := by unfold outPcs; rw [if_pos h]
  have := rd_pieces lang l l.length 0
  rw [List.drop_zero] at this
  rw [← this, outToks, e, List.map_map]
  rfl
theorem rd_sum (lang : Int) : ∀ (f : Nat) (l : List UInt8), ((rd lang f l).map fun x => x.2.length).sum ≤ l.length
  | 0, l => by simp [rd]
  | f + 1, [] => by simp [rd]
  | f + 1, c :: t => by
    rw [rd]
    by_cases he : (pieceOf lang (c :: t)).err ≠ 0
    · rw [if_pos he]; simp
    · rw [if_neg he]
      have hl := pieceOf_len lang c t (by simpa using he)
      have ih := rd_sum lang f ((c :: t).drop (pieceOf lang (c :: t)).len)
      rw [List.length_drop] at ih
      rw [List.map_append, List.sum_append]
      by_cases hk : (pieceOf lang (c :: t)).kind < 7
      · rw [if_pos hk]
        simp only [List.map_cons, List.map_nil, List.sum_cons, List.sum_nil, List.length_take, List.length_cons] at ih ⊢
        omega
      · rw [if_neg hk]
        simp only [List.map_nil, List.sum_nil, List.length_cons] at ih ⊢
        omega
/-- What a piece is that is just a token's text. -/
def Whole (lang : Int) (k : Int) (c : UInt8) (u r : List UInt8) : Prop :=
  (pieceOf lang (c :: (u ++ r))).err = 0 ∧ (pieceOf lang (c :: (u ++ r))).kind = k ∧ k < 7 ∧ (pieceOf lang (c :: (u ++ r))).len = u.length + 1
theorem first_whole {lang : Int} {k : Int} {x r : List UInt8} {rest : List (Int × List UInt8)} (hlen : x.length + (rest.map fun y => y.2.length).sum = (x ++ r).length) (hx : x ≠ []) (he : (readErr lang (x ++ r)).2 = 0)
    (h : rd lang (x ++ r).length (x ++ r) = (k, x) :: rest) : ∃ c u, x = c :: u ∧ Whole lang k c u r := by
  cases x with
  | nil => exact absurd rfl hx
  | cons c u =>
    refine ⟨c, u, rfl, ?_⟩
    have hpe := (readErr_ok he).2.2.2.1
    rw [List.cons_append] at h hpe hlen
    rw [List.length_cons, rd] at h
    rw [List.length_cons, pieceErr] at hpe
    by_cases hE : (pieceOf lang (c :: (u ++ r))).err ≠ 0
    · rw [if_pos hE] at hpe; cases hpe
    · rw [if_neg hE] at h
      have hE0 : (pieceOf lang (c :: (u ++ r))).err = 0 := by simpa using hE
      have hl := pieceOf_len lang c (u ++ r) hE0
      by_cases hk : (pieceOf lang (c :: (u ++ r))).kind < 7
      · rw [if_pos hk, List.singleton_append] at h
        injection h with h1 h2
        injection h1 with h3 h4
        have h5 := congrArg List.length h4
        rw [List.length_take, List.length_cons, List.length_cons] at h5
        exact ⟨hE0, h3, by rw [← h3]; exact hk, by omega⟩
      · exfalso
        rw [if_neg hk, List.nil_append] at h
        have := rd_sum lang (u ++ r).length ((c :: (u ++ r)).drop (pieceOf lang (c :: (u ++ r))).len)
        rw [h, List.length_drop, List.map_cons, List.sum_cons] at this
        simp only [List.length_cons] at this hlen
        omega
theorem right_reads {lang : Int} {t : Tok} (h : tokErr lang t = 0) : (lang = 0 ∨ lang = 1) ∧ 0 ≤ t.kind ∧ t.kind < 7 ∧ readsAs lang t.text [t] = true := by
  unfold tokErr at h
  by_cases h1 : lang = 0 ∨ lang = 1
  · rw [if_neg (fun x => x h1)] at h
    by_cases h2 : t.kind < 0 ∨ 7 ≤ t.kind
    · rw [if_pos h2] at h; cases h
    · rw [if_neg h2] at h
      cases hr : readsAs lang t.text [t] with
      | false => rw [hr, if_pos rfl] at h; cases h
      | true => exact ⟨h1, by omega, by omega, rfl⟩
  · rw [if_pos h1] at h; cases h
theorem right_whole {lang : Int} {t : Tok} (h : tokErr lang t = 0) : ∃ c u, t.text = c :: u ∧ Whole lang t.kind c u [] := by
  obtain ⟨h1, h2, h3, h4⟩ := right_reads h
  obtain ⟨he, hm⟩ := of_decide_eq_true h4
  rw [out_rd he] at hm
  have hx : t.text ≠ [] := by
    intro e; rw [e] at hm; simp [rd] at hm
  have := first_whole (x := t.text) (r := []) (k := t.kind) (rest := []) (lang := lang) (by simp) hx (by simpa using he) (by simpa [kt] using hm)
  exact this
theorem two_whole {lang : Int} {a b : Tok} (ha : tokErr lang a = 0) (h : readsAs lang (a.text ++ b.text) [a, b] = true) : ∃ c u, a.text = c :: u ∧ Whole lang a.kind c u b.text := by
  obtain ⟨he, hm⟩ := of_decide_eq_true h
  rw [out_rd he] at hm
  obtain ⟨c, u, hx, -⟩ := right_whole ha
  exact first_whole (x := a.text) (r := b.text) (k := a.kind) (rest := [kt b]) (lang := lang) (by simp [kt]) (by rw [hx]; simp) he hm

theorem begins_cons (lang : Int) (c d : UInt8) (t t' : List UInt8) : begins lang (c :: d :: t) = begins lang (c :: d :: t') := by
  unfold begins lineMark
  by_cases hl : lang = 0
  · simp [hl, List.isPrefixOf]
  · simp [hl, List.isPrefixOf]
theorem begins_one (lang : Int) (c : UInt8) : begins lang [c] = false := by
  unfold begins lineMark
  by_cases hl : lang = 0
  · simp [hl, List.isPrefixOf]
  · simp [hl, List.isPrefixOf]
theorem begins_blank (lang : Int) (c : UInt8) (t : List UInt8) : begins lang (c :: 32 :: t) = false := by
  unfold begins lineMark
  by_cases hl : lang = 0
  · simp [hl, List.isPrefixOf]
  · simp [hl, List.isPrefixOf]
/-- What a token's piece says of what is behind it. -/
theorem stops_of_whole {lang : Int} {k : Int} {c : UInt8} {u r : List UInt8} (h : Whole lang k c u r) : Stops lang c u r := by
  obtain ⟨he, hk, h7, hl⟩ := h
  rw [← hk] at h7
  have h1 : ¬ isSpace c = true := by
    intro h1; rw [pieceOf, if_pos h1] at h7; simp at h7
  have hb : begins lang (c :: (u ++ r)) = false := by
    cases h2 : begins lang (c :: (u ++ r)) with
    | false => rfl
    | true =>
      rw [pieceOf, if_neg h1, if_pos h2] at h7
      cases hc : commentLen lang (c :: (u ++ r)) with
      | none => rw [hc] at h7; simp at h7
      | some n => rw [hc] at h7; simp at h7
  have hdr : (u ++ r).drop u.length = r := by rw [List.drop_append_of_le_length (Nat.le_refl _), List.drop_length]; rfl
  refine ⟨hb, fun h3 => ?_, fun h4 => ?_, fun h5 => ?_, fun h3 h4 h5 h6 j hj1 hj2 hj3 => ?_⟩
  · have e : pieceOf lang (c :: (u ++ r)) = wordPiece lang (c :: (u ++ r)) := by rw [pieceOf, if_neg h1, if_neg (by rw [hb]; simp), if_pos h3]
    rw [e] at he hl
    have hlen : (wordPiece lang (c :: (u ++ r))).len = wordTail lang (u ++ r) + 1 := by
      unfold wordPiece at he ⊢
      split
      · rename_i h; rw [if_pos h] at he; simp at he
      · split <;> rfl
    have ht : wordTail lang (u ++ r) = u.length := by omega
    have := wordTail_stop lang (u ++ r)
    rwa [ht, hdr] at this
  · have h3 : ¬ isLetter c = true := by
      intro h3
      have a := of_decide_eq_true h3
      have b := of_decide_eq_true h4
      omega
    have e : pieceOf lang (c :: (u ++ r)) = numberPiece (c :: (u ++ r)) := by rw [pieceOf, if_neg h1, if_neg (by rw [hb]; simp), if_neg h3, if_pos h4]
    rw [e] at he hl
    have hlen : (numberPiece (c :: (u ++ r))).len = numTail (u ++ r) + 1 := by
      unfold numberPiece at he ⊢
      split
      · rename_i h; rw [if_pos h] at he; simp at he
      · rename_i h
        rw [if_neg h] at he
        split
        · rename_i h'; rw [if_pos h'] at he; simp at he
        · rfl
    have ht : numTail (u ++ r) = u.length := by omega
    have := numTail_stop (u ++ r)
    rwa [ht, hdr] at this
  · have h3 : ¬ isLetter c = true := by
      intro h3
      have a := of_decide_eq_true h3
      omega
    have h4 : ¬ isDigit c = true := by
      intro h4
      have a := of_decide_eq_true h4
      omega
    have e : pieceOf lang (c :: (u ++ r)) = charsPiece (c :: (u ++ r)) := by rw [pieceOf, if_neg h1, if_neg (by rw [hb]; simp), if_neg h3, if_neg h4, if_pos h5]
    rw [e] at he hl
    have hd : (c :: (u ++ r)).drop 1 = u ++ r := rfl
    cases hc : charsEnd (u ++ r) with
    | none => unfold charsPiece at he; rw [hd, hc] at he; simp at he
    | some n =>
      have hp : charsPiece (c :: (u ++ r)) = if 201 < n then ⟨0, 0, 2⟩ else ⟨3, n + 1, 0⟩ := by unfold charsPiece; rw [hd, hc]
      have hn : ¬ 201 < n := by
        intro h; rw [hp, if_pos h] at he; simp at he
      rw [hp, if_neg hn] at hl
      have ht : n = u.length := by simp at hl; omega
      have := charsEnd_stop (u ++ r) n hc
      rwa [ht, hdr] at this
  · have e : pieceOf lang (c :: (u ++ r)) = symbolPiece lang (c :: (u ++ r)) := by rw [pieceOf, if_neg h1, if_neg (by rw [hb]; simp), if_neg (by rw [h3]; simp), if_neg (by rw [h4]; simp), if_neg h5, if_neg h6]
    rw [e] at he hl
    have hs : symLen lang (c :: (u ++ r)) ≠ 0 := by
      intro h; unfold symbolPiece at he; rw [if_pos h] at he; simp at he
    have hlen : (symbolPiece lang (c :: (u ++ r))).len = symLen lang (c :: (u ++ r)) := by unfold symbolPiece; rw [if_neg hs]
    cases hsy : isSym lang ((c :: (u ++ r)).take j) with
    | false => rfl
    | true =>
      exfalso
      have hge : j ≤ symLen lang (c :: (u ++ r)) := by
        unfold symLen
        have : j = 2 ∨ j = 3 := by omega
        rcases this with rfl | rfl
        · split
          · omega
          · rw [if_pos ⟨hj3, hsy⟩]; omega
        · rw [if_pos ⟨hj3, hsy⟩]; omega
      omega

/-- The text of tokens from one on, behind another one. -/
def sufK (lang : Int) : Option Tok → List Tok → List UInt8
  | _, [] => []
  | none, t :: r => t.text ++ sufK lang (some t) r
  | some p, t :: r => (if together lang p t = false then [32] else []) ++ (t.text ++ sufK lang (some t) r)
theorem sufK_nil (lang : Int) (o : Option Tok) : sufK lang o [] = [] := by cases o <;> rfl
theorem joinK_suf (lang : Int) (ts : List Tok) : ∀ (n k : Nat), k + n = ts.length → joinK lang ts ts.length = joinK lang ts k ++ sufK lang (if k = 0 then none else some (ts.getD (k - 1) tok0)) (ts.drop k)
  | 0, k, h => by rw [show k = ts.length by omega, List.drop_length, sufK_nil, List.append_nil]
  | n + 1, k, h => by
    have hk : k < ts.length := by omega
    have ih := joinK_suf lang ts n (k + 1) (by omega)
    rw [if_neg (by omega), Nat.add_sub_cancel] at ih
    have hd : ts.drop k = ts.getD k tok0 :: ts.drop (k + 1) := by
      rw [List.drop_eq_getElem_cons hk, List.getD_eq_getElem?_getD, List.getElem?_eq_getElem hk]; rfl
    rw [ih, hd, joinK, List.append_assoc, List.append_assoc]
    congr 1
    by_cases h0 : k = 0
    · subst h0
      have : sepK lang ts 0 = [] := by unfold sepK; rw [if_neg (by omega)]
      rw [this, if_pos rfl, sufK, List.nil_append]
    · rw [if_neg h0, sufK]
      congr 1
      unfold sepK
      by_cases ht : together lang (ts.getD (k - 1) tok0) (ts.getD k tok0) = false
      · rw [if_pos ⟨by omega, ht⟩, if_pos ht]
      · rw [if_neg (fun x => ht x.2), if_neg ht]
theorem join_suf (lang : Int) (ts : List Tok) : joinK lang ts ts.length = sufK lang none ts := by
  have := joinK_suf lang ts ts.length 0 (by omega)
  rwa [if_pos rfl, List.drop_zero, joinK, List.nil_append] at this

theorem wordCont_no (lang : Int) {c : UInt8} (t : List UInt8) (p1 : isPart c = false) (p2 : c.toNat ≠ 95) (p3 : c.toNat ≠ 45) : wordCont lang (c :: t) = false := by
  have e : wordCont lang (c :: t) = (isPart c || (if lang = 1 then decide (c.toNat = 95) else (decide (c.toNat = 45) && (match t with | [] => false | d :: _ => isPart d)))) := rfl
  rw [e, p1, Bool.false_or]
  by_cases hl : lang = 1
  · rw [if_pos hl]; exact decide_eq_false p2
  · rw [if_neg hl, decide_eq_false p3, Bool.false_and]
theorem stops_blank {lang : Int} {c : UInt8} {u : List UInt8} (h : Stops lang c u []) (v : List UInt8) : Stops lang c u (32 :: v) := by
  refine ⟨?_, fun _ => ?_, fun _ => rfl, fun _ => by simp, fun h3 h4 h5 h6 k hk1 hk2 hk3 => ?_⟩
  · cases u with
    | nil => exact begins_blank lang c v
    | cons d u => rw [List.cons_append, begins_cons lang c d _ (u ++ [])]; exact h.begins
  · exact wordCont_no lang v rfl (by decide) (by decide)
  · cases hs : isSym lang ((c :: (u ++ 32 :: v)).take k) with
    | false => rfl
    | true =>
      exfalso
      have hm : (32 : UInt8) ∈ (c :: (u ++ 32 :: v)).take k := by
        refine List.mem_of_getElem? (i := u.length + 1) ?_
        rw [List.getElem?_take_of_lt hk1, List.getElem?_cons_succ, List.getElem?_append_right (Nat.le_refl _), Nat.sub_self]
        rfl
      exact syms_blank lang _ (of_decide_eq_true hs) _ hm rfl
theorem open_first : ∀ x ∈ openT, ∀ c u, x = c :: u → isLetter c = false := by
  intro x hx c u e
  subst e
  simp [openT] at hx
  rcases hx with h | h | h | h | h | h | h | h | h <;> (obtain ⟨rfl, -⟩ := h; rfl)
theorem shut_first : ∀ x ∈ shutT, ∀ c u, x = c :: u → isPart c = false ∧ c.toNat ≠ 95 ∧ c.toNat ≠ 45 ∧ c ≠ 61 := by
  intro x hx c u e
  subst e
  simp [shutT] at hx
  rcases hx with h | h | h | h | h | h | h | h | h <;> (obtain ⟨rfl, -⟩ := h; exact ⟨rfl, by decide, by decide, by decide⟩)
theorem syms_three (lang : Int) : ∀ x ∈ symsOf lang, x.length = 3 → x = [58, 58, 61] ∨ x = [46, 46, 46] := by
  unfold symsOf
  split
  · decide
  · decide
theorem syms_dots (lang : Int) : isSym lang [46, 46] = true := by
  unfold isSym symsOf
  split
  · decide
  · decide
/-- What may stand behind a token. -/
def Nxt (lang : Int) (t2 : Tok) (r : List UInt8) : Prop :=
  r = [] ∨ r.head? = some 32 ∨ ∃ (t3 : Tok) (e : UInt8) (y z : List UInt8), t3.text = e :: y ∧ r = e :: (y ++ z) ∧ together lang t2 t3 = true
theorem together_or {lang : Int} {a b : Tok} (h : together lang a b = true) : (a.text ∈ openT ∨ b.text ∈ shutT) ∧ readsAs lang (a.text ++ b.text) [a, b] = true := by
  unfold together at h
  rw [Bool.and_eq_true, Bool.or_eq_true, decide_eq_true_eq, decide_eq_true_eq] at h
  exact h
theorem stops_more {lang : Int} {t t2 : Tok} {c d : UInt8} {u w r : List UInt8} (hx : t.text = c :: u) (h2 : t2.text = d :: w) (s : Stops lang c u (d :: w)) (ho : t.text ∈ openT ∨ t2.text ∈ shutT) (hr : Nxt lang t2 r) : Stops lang c u (d :: (w ++ r)) := by
  refine ⟨?_, fun h3 => ?_, fun h4 => s.num h4, fun h5 => by have := s.chars h5; simpa using this, fun h3 h4 h5 h6 k hk1 hk2 hk3 => ?_⟩
  · cases u with
    | nil => rw [List.nil_append, begins_cons lang c d _ w]; exact s.begins
    | cons e u => rw [List.cons_append, begins_cons lang c e _ (u ++ d :: w)]; exact s.begins
  · have hsh : t2.text ∈ shutT := by
      rcases ho with h | h
      · have := open_first _ h c u hx; rw [h3] at this; cases this
      · exact h
    obtain ⟨p1, p2, p3, -⟩ := shut_first _ hsh d w h2
    exact wordCont_no lang _ p1 p2 p3
  · by_cases hk : k ≤ (c :: (u ++ d :: w)).length
    · have e : (c :: (u ++ d :: (w ++ r))) = (c :: (u ++ d :: w)) ++ r := by simp
      rw [e, List.take_append_of_le_length hk]
      exact s.sym h3 h4 h5 h6 k hk1 hk2 hk
    · simp only [List.length_cons, List.length_append] at hk hk3
      have hu : u = [] := List.eq_nil_of_length_eq_zero (by omega)
      have hw : w = [] := List.eq_nil_of_length_eq_zero (by omega)
      subst hu; subst hw
      have hk' : k = 3 := by simp at hk; omega
      subst hk'
      cases r with
      | nil => simp at hk3
      | cons e y =>
        cases hs : isSym lang ((c :: ([] ++ d :: ([] ++ e :: y))).take 3) with
        | false => rfl
        | true =>
          exfalso
          have hs' : [c, d, e] ∈ symsOf lang := of_decide_eq_true hs
          rcases syms_three lang _ hs' rfl with h | h
          · injection h with e1 h; injection h with e2 h; injection h with e3 _
            subst e2; subst e3
            rcases hr with hr | hr | ⟨t3, e', y', z, h7, h8, h9⟩
            · cases hr
            · simp at hr
            · obtain ⟨h10, -⟩ := together_or h9
              injection h8 with h11 _
              subst h11
              rcases h10 with h10 | h10
              · rw [h2] at h10; revert h10; decide
              · exact (shut_first _ h10 _ _ h7).2.2.2 rfl
          · injection h with e1 h; injection h with e2 h; injection h with e3 _
            subst e1; subst e2
            have := s.sym h3 h4 h5 h6 2 (by simp) (by omega) (by simp)
            have h12 : isSym lang [46, 46] = false := this
            rw [syms_dots] at h12; cases h12
theorem nxt_suf (lang : Int) (t : Tok) (r : List Tok) (hr : ∀ x ∈ r, tokErr lang x = 0) : Nxt lang t (sufK lang (some t) r) := by
  cases r with
  | nil => exact .inl rfl
  | cons t2 r =>
    rw [sufK]
    cases ht : together lang t t2 with
    | false => rw [if_pos rfl]; exact .inr (.inl rfl)
    | true =>
      rw [if_neg (by decide), List.nil_append]
      obtain ⟨d, w, h2, -⟩ := right_whole (hr t2 (by simp))
      exact .inr (.inr ⟨t2, d, w, _, h2, by rw [h2]; rfl, ht⟩)
theorem stops_next (lang : Int) (t : Tok) (c : UInt8) (u : List UInt8) (hx : t.text = c :: u) (h : tokErr lang t = 0) (r : List Tok) (hr : ∀ x ∈ r, tokErr lang x = 0) : Stops lang c u (sufK lang (some t) r) := by
  have h0 : Stops lang c u [] := by
    obtain ⟨c', u', h1, h2⟩ := right_whole h
    rw [hx] at h1
    injection h1 with e1 e2
    subst e1; subst e2
    exact stops_of_whole h2
  cases r with
  | nil => exact h0
  | cons t2 r =>
    rw [sufK]
    cases ht : together lang t t2 with
    | false => rw [if_pos rfl]; exact stops_blank h0 _
    | true =>
      rw [if_neg (by decide), List.nil_append]
      obtain ⟨ho, hra⟩ := together_or ht
      obtain ⟨d, w, h2, -⟩ := right_whole (hr t2 (by simp))
      obtain ⟨c', u', h1, h3⟩ := two_whole h hra
      rw [hx] at h1
      injection h1 with e1 e2
      subst e1; subst e2
      rw [h2] at h3 ⊢
      rw [List.cons_append]
      exact stops_more hx h2 (stops_of_whole h3) ho (nxt_suf lang t2 r (fun x hx => hr x (by simp [hx])))
theorem right_permitted {lang : Int} {t : Tok} (h : tokErr lang t = 0) : ∀ b ∈ t.text, isPermitted b = true :=
  (badAt_none _).1 (readErr_ok (of_decide_eq_true (right_reads h).2.2.2).1).2.2.1
/-- Tokens that are written so are read so. -/
theorem read_tok (lang : Int) (t : Tok) (h : tokErr lang t = 0) (r : List Tok) (hr : ∀ x ∈ r, tokErr lang x = 0) (f a : Nat) (hf : (t.text ++ sufK lang (some t) r).length ≤ f)
    (ih : ∀ f a, (sufK lang (some t) r).length ≤ f → pieceErr lang f (sufK lang (some t) r) a = none ∧ rd lang f (sufK lang (some t) r) = r.map kt) :
    pieceErr lang f (t.text ++ sufK lang (some t) r) a = none ∧ rd lang f (t.text ++ sufK lang (some t) r) = kt t :: r.map kt := by
  obtain ⟨c, u, hx, he, hk, h7, hl⟩ := right_whole h
  have hst := stops_next lang t c u hx h r hr
  rw [List.append_nil] at he hk hl
  have hp := pieceOf_app lang c u _ (by rw [hk]; exact h7) he hl hst
  rw [hx] at hf ⊢
  rw [List.cons_append] at hf ⊢
  cases f with
  | zero => simp at hf
  | succ f =>
    have hdr : (c :: (u ++ sufK lang (some t) r)).drop (u.length + 1) = sufK lang (some t) r := by
      rw [List.drop_succ_cons, List.drop_append_of_le_length (Nat.le_refl _), List.drop_length]; rfl
    have htk : (c :: (u ++ sufK lang (some t) r)).take (u.length + 1) = c :: u := by
      rw [List.take_succ_cons, List.take_append_of_le_length (Nat.le_refl _), List.take_length]
    obtain ⟨i1, i2⟩ := ih f (a + (u.length + 1)) (by simp at hf ⊢; omega)
    rw [pieceErr, rd, hp, hl, hk, hdr, htk, if_neg (by rw [he]; decide), if_neg (by rw [he]; decide), if_pos h7, i2]
    exact ⟨i1, by rw [kt, hx]; rfl⟩
theorem read_suf (lang : Int) : ∀ (ts : List Tok) (o : Option Tok) (f a : Nat), (∀ t ∈ ts, tokErr lang t = 0) → (sufK lang o ts).length ≤ f →
    pieceErr lang f (sufK lang o ts) a = none ∧ rd lang f (sufK lang o ts) = ts.map kt
  | [], o, f, a, _, _ => by
    rw [sufK_nil]
    exact ⟨pieceErr_nil lang a f, rd_nil lang f⟩
  | t :: r, o, f, a, h, hf => by
    have hr : ∀ x ∈ r, tokErr lang x = 0 := fun x hx => h x (by simp [hx])
    have ih := fun f a => read_suf lang r (some t) f a hr
    cases o with
    | none =>
      rw [sufK] at hf ⊢
      exact read_tok lang t (h t (by simp)) r hr f a hf ih
    | some p =>
      rw [sufK] at hf ⊢
      by_cases ht : together lang p t = false
      · rw [if_pos ht] at hf ⊢
        rw [List.singleton_append] at hf ⊢
        cases f with
        | zero => simp at hf
        | succ f =>
          have hp : pieceOf lang (32 :: (t.text ++ sufK lang (some t) r)) = ⟨7, 1, 0⟩ := by rw [pieceOf, if_pos (by decide)]
          obtain ⟨i1, i2⟩ := read_tok lang t (h t (by simp)) r hr f (a + 1) (by simp at hf ⊢; omega) ih
          rw [pieceErr, rd, hp]
          exact ⟨i1, i2⟩
      · rw [if_neg ht] at hf ⊢
        rw [List.nil_append] at hf ⊢
        exact read_tok lang t (h t (by simp)) r hr f a hf ih
theorem suf_permitted (lang : Int) : ∀ (ts : List Tok) (o : Option Tok), (∀ t ∈ ts, tokErr lang t = 0) → ∀ b ∈ sufK lang o ts, isPermitted b = true
  | [], o, _, b, hb => by rw [sufK_nil] at hb; cases hb
  | t :: r, o, h, b, hb => by
    have hr : ∀ x ∈ r, tokErr lang x = 0 := fun x hx => h x (by simp [hx])
    have key : ∀ b ∈ t.text ++ sufK lang (some t) r, isPermitted b = true := by
      intro b hb
      rcases List.mem_append.1 hb with hb | hb
      · exact right_permitted (h t (by simp)) b hb
      · exact suf_permitted lang r (some t) hr b hb
    cases o with
    | none => exact key b hb
    | some p =>
      rw [sufK] at hb
      rcases List.mem_append.1 hb with hb | hb
      · split at hb
        · simp at hb; subst hb; rfl
        · cases hb
      · exact key b hb
theorem tokErrs_all {lang : Int} : ∀ {ts : List Tok}, tokErrs lang ts = 0 → ∀ t ∈ ts, tokErr lang t = 0
  | [], _, t, ht => by cases ht
  | x :: r, h, t, ht => by
    rw [tokErrs] at h
    by_cases hx : tokErr lang x = 0
    · rw [if_neg (by simpa using hx)] at h
      rcases List.mem_cons.1 ht with rfl | ht
      · exact hx
      · exact tokErrs_all h t ht
    · rw [if_pos hx] at h; exact absurd h hx
theorem all_tokErrs {lang : Int} : ∀ {ts : List Tok}, (∀ t ∈ ts, tokErr lang t = 0) → tokErrs lang ts = 0
  | [], _ => rfl
  | x :: r, h => by
    rw [tokErrs, if_neg (by rw [h x (by simp)]; decide)]
    exact all_tokErrs fun t ht => h t (by simp [ht])
/-- What is written is read as the same tokens. -/
theorem joined_read {lang : Int} {ts : List Tok} (h : (joinRes lang ts).2 = 0) : readErr lang (joinRes lang ts).1 = (0, 0) ∧ (outToks lang (joinRes lang ts).1).map kt = ts.map kt := by
  unfold joinRes at h
  by_cases h1 : lang = 0 ∨ lang = 1
  · rw [if_neg (fun x => x h1)] at h
    by_cases h2 : 1500 < ts.length
    · rw [if_pos h2] at h; simp at h
    · rw [if_neg h2] at h
      by_cases h3 : tokErrs lang ts = 0
      · rw [if_neg (by simpa using h3)] at h
        by_cases h4 : 8000 < (joinK lang ts ts.length).length
        · rw [if_pos h4] at h; simp at h
        · have e : joinRes lang ts = (joinK lang ts ts.length, 0) := by
            unfold joinRes
            rw [if_neg (fun x => x h1), if_neg h2, if_neg (by simpa using h3), if_neg h4]
          rw [e]
          simp only
          rw [join_suf] at h4 ⊢
          have hall := tokErrs_all h3
          obtain ⟨r1, r2⟩ := read_suf lang ts none (sufK lang none ts).length 0 hall (Nat.le_refl _)
          have hb : badAt (sufK lang none ts) = none := (badAt_none _).2 (suf_permitted lang ts none hall)
          have hp := rd_pieces lang (sufK lang none ts) (sufK lang none ts).length 0
          rw [List.drop_zero, r2] at hp
          have hlen : (tokPcs lang (sufK lang none ts)).length = ts.length := by
            have := congrArg List.length hp
            rw [List.length_map, List.length_map] at this
            exact this
          have hre : readErr lang (sufK lang none ts) = (0, 0) := by
            unfold readErr
            rw [if_neg (fun x => x h1), if_neg h4, hb, r1, hlen]
            simp only
            rw [if_neg h2]
          exact ⟨hre, by rw [out_rd (by rw [hre]), r2]⟩
      · rw [if_pos h3] at h; exact absurd h h3
  · rw [if_pos h1] at h; simp at h
theorem together_congr {lang : Int} {a b a' b' : Tok} (h1 : kt a = kt a') (h2 : kt b = kt b') : together lang a b = together lang a' b' := by
  have e1 : a.text = a'.text := congrArg Prod.snd h1
  have e2 : b.text = b'.text := congrArg Prod.snd h2
  unfold together readsAs
  rw [e1, e2]
  simp only [List.map_cons, List.map_nil, h1, h2]
theorem suf_congr (lang : Int) : ∀ (ts m : List Tok) (o o' : Option Tok), ts.map kt = m.map kt → o.map kt = o'.map kt → sufK lang o ts = sufK lang o' m
  | [], [], o, o', _, _ => by rw [sufK_nil, sufK_nil]
  | [], _ :: _, _, _, h, _ => by cases h
  | _ :: _, [], _, _, h, _ => by cases h
  | t :: r, t' :: r', o, o', h, ho => by
    rw [List.map_cons, List.map_cons] at h
    injection h with h1 h2
    have e1 : t.text = t'.text := congrArg Prod.snd h1
    have ih := suf_congr lang r r' (some t) (some t') h2 (by rw [Option.map_some, Option.map_some, h1])
    cases o with
    | none =>
      cases o' with
      | none => rw [sufK, sufK, e1, ih]
      | some _ => cases ho
    | some p =>
      cases o' with
      | none => cases ho
      | some p' =>
        rw [Option.map_some, Option.map_some] at ho
        injection ho with ho
        rw [sufK, sufK, e1, ih, together_congr ho h1]
/-- .. and written again the same. -/
theorem joined_again {lang : Int} {ts : List Tok} (h : (joinRes lang ts).2 = 0) : joinRes lang (outToks lang (joinRes lang ts).1) = ((joinRes lang ts).1, 0) := by
  obtain ⟨hre, hm⟩ := joined_read h
  have hall : ∀ t ∈ outToks lang (joinRes lang ts).1, tokErr lang t = 0 := fun t ht => (token_right lang _ t ht).1
  have hlen : (outToks lang (joinRes lang ts).1).length = ts.length := by
    have := congrArg List.length hm
    rwa [List.length_map, List.length_map] at this
  have hsuf : sufK lang none (outToks lang (joinRes lang ts).1) = sufK lang none ts := suf_congr lang _ _ none none hm rfl
  have hs := h
  unfold joinRes at hs
  have h1 : lang = 0 ∨ lang = 1 := by
    by_cases h1 : lang = 0 ∨ lang = 1
    · exact h1
    · rw [if_pos h1] at hs; simp at hs
  rw [if_neg (fun x => x h1)] at hs
  have h2 : ¬ 1500 < ts.length := by
    intro h2; rw [if_pos h2] at hs; simp at hs
  rw [if_neg h2] at hs
  have h3 : tokErrs lang ts = 0 := by
    by_cases h3 : tokErrs lang ts = 0
    · exact h3
    · rw [if_pos h3] at hs; exact hs
  rw [if_neg (by simpa using h3)] at hs
  have h4 : ¬ 8000 < (joinK lang ts ts.length).length := by
    intro h4; rw [if_pos h4] at hs; simp at hs
  have e : joinRes lang ts = (sufK lang none ts, 0) := by
    unfold joinRes
    rw [if_neg (fun x => x h1), if_neg h2, if_neg (by simpa using h3), if_neg h4, join_suf]
  rw [join_suf] at h4
  generalize hM : outToks lang (joinRes lang ts).1 = M at hall hlen hsuf
  rw [e]
  unfold joinRes
  rw [if_neg (fun x => x h1), if_neg (by rw [hlen]; exact h2), if_neg (by rw [all_tokErrs hall]; decide), join_suf, hsuf, if_neg h4]
end Go.Proofs.YtknbmnckegonlaaGreatDoor
