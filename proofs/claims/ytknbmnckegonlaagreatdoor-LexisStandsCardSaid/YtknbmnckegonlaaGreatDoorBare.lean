/- Plain laws: with blanks in the place of comments a text has the same tokens at the same places, and no comments. No program is walked here. -/
import Derived.Test.YtknbmnckegonlaaGreatDoorAgain
import Derived.Test.YtknbmnckegonlaaGreatDoorPaint
namespace Go.Proofs.YtknbmnckegonlaaGreatDoor

/-- A text, some of whose bytes are blanks. -/
def Bl (r r' : List UInt8) : Prop := r'.length = r.length ∧ ∀ i : Nat, r'[i]? = r[i]? ∨ r'[i]? = some 32
theorem Bl.tail {d d' : UInt8} {y y' : List UInt8} (h : Bl (d :: y) (d' :: y')) : Bl y y' :=
  ⟨by have := h.1; simpa using this, fun i => by have := h.2 (i + 1); simpa using this⟩
theorem Bl.cases {r r' : List UInt8} (h : Bl r r') : (r = [] ∧ r' = []) ∨ (∃ d y y', r = d :: y ∧ r' = d :: y' ∧ Bl y y') ∨ (∃ d y y', r = d :: y ∧ r' = 32 :: y' ∧ Bl y y') := by
  cases r with
  | nil => exact .inl ⟨rfl, List.eq_nil_of_length_eq_zero h.1⟩
  | cons d y =>
    cases r' with
    | nil => have := h.1; simp at this
    | cons d' y' =>
      rcases h.2 0 with h0 | h0
      · simp at h0; subst h0; exact .inr (.inl ⟨d', y, y', rfl, rfl, h.tail⟩)
      · simp at h0; subst h0; exact .inr (.inr ⟨d, y, y', rfl, rfl, h.tail⟩)
theorem stops_blanked {lang : Int} {c : UInt8} {u r r' : List UInt8} (h : Stops lang c u r) (hr : Bl r r') : Stops lang c u r' := by
  refine ⟨?_, fun h3 => ?_, fun h4 => ?_, fun h5 => ?_, fun h3 h4 h5 h6 k hk1 hk2 hk3 => ?_⟩
  · cases u with
    | cons e u => rw [List.cons_append, begins_cons lang c e _ (u ++ r)]; exact h.begins
    | nil =>
      have hb := h.begins
      rcases hr.cases with ⟨-, rfl⟩ | ⟨d, y, y', rfl, rfl, -⟩ | ⟨d, y, y', -, rfl, -⟩
      · exact begins_one lang c
      · rw [List.nil_append, begins_cons lang c d _ y]; exact hb
      · exact begins_blank lang c _
  · have hw := h.word h3
    rcases hr.cases with ⟨-, rfl⟩ | ⟨d, y, y', rfl, rfl, hy⟩ | ⟨d, y, y', -, rfl, -⟩
    · rfl
    · have e : ∀ z, wordCont lang (d :: z) = (isPart d || (if lang = 1 then decide (d.toNat = 95) else (decide (d.toNat = 45) && (match z with | [] => false | x :: _ => isPart x)))) := fun _ => rfl
      rw [e] at hw ⊢
      rw [Bool.or_eq_false_iff] at hw ⊢
      refine ⟨hw.1, ?_⟩
      by_cases hl : lang = 1
      · have := hw.2; rw [if_pos hl] at this ⊢; exact this
      · have h2 := hw.2
        rw [if_neg hl] at h2 ⊢
        rw [Bool.and_eq_false_iff] at h2 ⊢
        rcases h2 with h2 | h2
        · exact .inl h2
        · right
          rcases hy.cases with ⟨-, rfl⟩ | ⟨x, z, z', rfl, rfl, -⟩ | ⟨x, z, z', -, rfl, -⟩
          · rfl
          · exact h2
          · rfl
    · exact wordCont_no lang _ rfl (by decide) (by decide)
  · have hn := h.num h4
    rcases hr.cases with ⟨-, rfl⟩ | ⟨d, y, y', rfl, rfl, -⟩ | ⟨d, y, y', -, rfl, -⟩
    · rfl
    · exact hn
    · rfl
  · have hc := h.chars h5
    rcases hr.cases with ⟨-, rfl⟩ | ⟨d, y, y', rfl, rfl, -⟩ | ⟨d, y, y', -, rfl, -⟩
    · simp
    · simpa using hc
    · simp
  · by_cases hb : ∃ i, i + (u.length + 1) < k ∧ r'[i]? = some 32
    · obtain ⟨i, hi, h32⟩ := hb
      cases hs : isSym lang ((c :: (u ++ r')).take k) with
      | false => rfl
      | true =>
        exfalso
        have hm : (32 : UInt8) ∈ (c :: (u ++ r')).take k := by
          refine List.mem_of_getElem? (i := i + (u.length + 1)) ?_
          rw [List.getElem?_take_of_lt hi, show i + (u.length + 1) = (u.length + i) + 1 by omega, List.getElem?_cons_succ, List.getElem?_append_right (by omega), Nat.add_sub_cancel_left]
          exact h32
        exact syms_blank lang _ (of_decide_eq_true hs) _ hm rfl
    · have e : (c :: (u ++ r')).take k = (c :: (u ++ r)).take k := by
        apply List.ext_getElem?
        intro i
        by_cases hik : i < k
        · rw [List.getElem?_take_of_lt hik, List.getElem?_take_of_lt hik]
          cases i with
          | zero => rfl
          | succ i =>
            rw [List.getElem?_cons_succ, List.getElem?_cons_succ]
            by_cases hiu : i < u.length
            · rw [List.getElem?_append_left hiu, List.getElem?_append_left hiu]
            · rw [List.getElem?_append_right (by omega), List.getElem?_append_right (by omega)]
              rcases hr.2 (i - u.length) with h0 | h0
              · exact h0
              · exact absurd ⟨i - u.length, by omega, h0⟩ hb
        · rw [List.getElem?_eq_none (by rw [List.length_take]; omega), List.getElem?_eq_none (by rw [List.length_take]; omega)]
      rw [e]
      exact h.sym h3 h4 h5 h6 k hk1 hk2 (by have := hr.1; simp at hk3 ⊢; omega)
theorem skip_spaces (lang : Int) : ∀ (n g : Nat) (l : List UInt8) (a : Nat), n ≤ l.length → l.length ≤ g → (∀ i, i < n → ∃ c, l[i]? = some c ∧ isSpace c = true) →
    pieceErr lang g l a = pieceErr lang (g - n) (l.drop n) (a + n) ∧ (pieces lang g l a).filter isTok = (pieces lang (g - n) (l.drop n) (a + n)).filter isTok ∧ (pieces lang g l a).filter isCom = (pieces lang (g - n) (l.drop n) (a + n)).filter isCom
  | 0, g, l, a, _, _, _ => ⟨rfl, rfl, rfl⟩
  | n + 1, g, [], a, h, _, _ => by simp at h
  | n + 1, 0, c :: t, a, _, h, _ => by simp at h
  | n + 1, g + 1, c :: t, a, h1, h2, hs => by
    obtain ⟨d, hd, hsp⟩ := hs 0 (by omega)
    simp at hd
    subst hd
    have hp : pieceOf lang (c :: t) = ⟨7, 1, 0⟩ := by rw [pieceOf, if_pos hsp]
    obtain ⟨i1, i2, i3⟩ := skip_spaces lang n g t (a + 1) (by simp at h1; omega) (by simp at h2; omega) (fun i hi => by have := hs (i + 1) (by omega); simpa using this)
    have e1 : g + 1 - (n + 1) = g - n := by omega
    have e2 : a + (n + 1) = a + 1 + n := by omega
    rw [e1, e2, List.drop_succ_cons, ← i1, ← i2, ← i3, pieceErr, pieces, hp]
    refine ⟨rfl, ?_, ?_⟩
    · rw [if_neg (by decide), List.filter_cons_of_neg (by simp [isTok])]; rfl
    · rw [if_neg (by decide), List.filter_cons_of_neg (by simp [isCom])]; rfl
theorem pieces_ge (lang : Int) (f : Nat) (l : List UInt8) (a : Nat) : ∀ p ∈ pieces lang f l a, a ≤ p.fr := fun p hp => (pieces_in lang f l a p hp).1
theorem cov_later {ps : List Pc} {i b : Nat} (h : ∀ p ∈ ps, b ≤ p.fr) (hi : i < b) : cov ps i = false := by
  cases hc : cov ps i with
  | false => rfl
  | true =>
    obtain ⟨p, hp, h1, -⟩ := (cov_iff _ _).1 hc
    have := h p hp; omega
theorem bare_fuel (lang : Int) : ∀ (f g : Nat) (l : List UInt8) (a : Nat), l.length ≤ f → l.length ≤ g → pieceErr lang f l a = pieceErr lang g l a ∧ pieces lang f l a = pieces lang g l a
| f, g, [], a, _, _ => by rw [pieceErr_nil, pieceErr_nil, pieces_nil, pieces_nil]; exact ⟨rfl, rfl⟩
| 0, g, c :: t, a, h, _ => by simp at h
| f + 1, 0, c :: t, a, _, h => by simp at h
| f + 1, g + 1, c :: t, a, h1, h2 => by
  rw [pieceErr, pieceErr, pieces, pieces]
  by_cases hE : (pieceOf lang (c :: t)).err ≠ 0
  · simp [hE]
  · have hE0 : (pieceOf lang (c :: t)).err = 0 := by simpa using hE
    have hlen := pieceOf_len lang c t hE0
    have ih := bare_fuel lang f g ((c :: t).drop (pieceOf lang (c :: t)).len) (a + (pieceOf lang (c :: t)).len) (by simp at h1 ⊢; omega) (by simp at h2 ⊢; omega)
    rw [if_neg hE, if_neg hE, if_neg hE, if_neg hE, ih.1, ih.2]
    exact ⟨rfl, rfl⟩
/-- The first piece's comment, if it is one, covers what it covers; further on the others do. -/
theorem bare_read (lang : Int) : ∀ (f g : Nat) (l l' : List UInt8) (a : Nat), l.length ≤ f → l'.length ≤ g → l'.length = l.length → pieceErr lang f l a = none →
    (∀ i, l'[i]? = l[i]?.map fun c => if (cov ((pieces lang f l a).filter isCom) (a + i) && decide (c ≠ 10)) = true then 32 else c) →
    pieceErr lang g l' a = none ∧ (pieces lang g l' a).filter isTok = (pieces lang f l a).filter isTok ∧ (pieces lang g l' a).filter isCom = []
  | 0, g, l, l', a, h1, h2, h3, _, _ => by
    have e : l = [] := List.eq_nil_of_length_eq_zero (by omega)
    have e' : l' = [] := List.eq_nil_of_length_eq_zero (by omega)
    subst e; subst e'
    rw [pieceErr_nil, pieces_nil, pieces_nil]; exact ⟨rfl, rfl, rfl⟩
  | f + 1, g, [], l', a, h1, h2, h3, _, _ => by
    have e' : l' = [] := List.eq_nil_of_length_eq_zero h3
    subst e'
    rw [pieceErr_nil, pieces_nil, pieces_nil]; exact ⟨rfl, rfl, rfl⟩
  | f + 1, g, c :: t, l', a, h1, h2, h3, he, hl' => by
    rw [pieceErr] at he
    by_cases hE : (pieceOf lang (c :: t)).err ≠ 0
    · rw [if_pos hE] at he; cases he
    · rw [if_neg hE] at he
      have hE0 : (pieceOf lang (c :: t)).err = 0 := by simpa using hE
      have hlen := pieceOf_len lang c t hE0
      obtain ⟨n, hn⟩ : ∃ n, (pieceOf lang (c :: t)).len = n := ⟨_, rfl⟩
      rw [hn] at he hlen
      have hps : pieces lang (f + 1) (c :: t) a = ⟨(pieceOf lang (c :: t)).kind, a, a + n⟩ :: pieces lang f ((c :: t).drop n) (a + n) := by
        rw [pieces, if_neg hE, hn]
      have hge := pieces_ge lang f ((c :: t).drop n) (a + n)
      have hgec : ∀ p ∈ (pieces lang f ((c :: t).drop n) (a + n)).filter isCom, a + n ≤ p.fr := fun p hp => hge p (List.mem_filter.1 hp).1
      have hl3 : n ≤ l'.length := by rw [h3, List.length_cons]; omega
      have ih := bare_read lang f (g - n) ((c :: t).drop n) (l'.drop n) (a + n) (by simp at h1 ⊢; omega) (by simp; omega) (by simp at h3 ⊢; omega) he ?_
      · obtain ⟨i1, i2, i3⟩ := ih
        by_cases h8 : (pieceOf lang (c :: t)).kind = 8
        · have hspc : ∀ i, i < n → ∃ c, l'[i]? = some c ∧ isSpace c = true := by
            intro i hi
            have hil : i < (c :: t).length := by rw [List.length_cons]; omega
            have := hl' i
            rw [List.getElem?_eq_getElem hil, Option.map_some, hps, List.filter_cons_of_pos (by simp [isCom, h8])] at this
            have hcv : cov (⟨(pieceOf lang (c :: t)).kind, a, a + n⟩ :: (pieces lang f ((c :: t).drop n) (a + n)).filter isCom) (a + i) = true :=
              (cov_iff _ _).2 ⟨_, List.mem_cons_self, by simp, by simp; omega⟩
            rw [hcv, Bool.true_and] at this
            refine ⟨_, this, ?_⟩
            by_cases h10 : (c :: t)[i] = 10
            · rw [h10]; rfl
            · rw [if_pos (decide_eq_true h10)]; rfl
          obtain ⟨s1, s2, s3⟩ := skip_spaces lang n g l' a hl3 h2 hspc
          rw [s1, s2, s3, hps, List.filter_cons_of_neg (by simp [isTok, h8])]
          exact ⟨i1, i2, i3⟩
        · have hcf : (pieces lang (f + 1) (c :: t) a).filter isCom = (pieces lang f ((c :: t).drop n) (a + n)).filter isCom := by
            rw [hps, List.filter_cons_of_neg (by simp [isCom, h8])]
          rw [hcf] at hl'
          have hsame : ∀ i, i < n → l'[i]? = (c :: t)[i]? := by
            intro i hi
            rw [hl' i, cov_later hgec (by omega)]
            cases (c :: t)[i]? <;> simp
          obtain ⟨d, t', hl'e⟩ : ∃ d t', l' = d :: t' := by
            cases l' with
            | nil => simp at h3
            | cons d t' => exact ⟨d, t', rfl⟩
          have hdc : d = c := by
            have := hsame 0 (by omega); rw [hl'e] at this; simpa using this
          rw [hdc] at hl'e
          have hP : pieceOf lang l' = pieceOf lang (c :: t) := by
            by_cases h7 : (pieceOf lang (c :: t)).kind < 7
            · have hct : c :: t = c :: (t.take (n - 1) ++ t.drop (n - 1)) := by rw [List.take_append_drop]
              have hct' : l' = c :: (t.take (n - 1) ++ t'.drop (n - 1)) := by
                have : t.take (n - 1) = t'.take (n - 1) := by
                  apply List.ext_getElem?
                  intro i
                  by_cases hi : i < n - 1
                  · rw [List.getElem?_take_of_lt hi, List.getElem?_take_of_lt hi]
                    have := hsame (i + 1) (by omega)
                    rw [hl'e] at this; simpa using this.symm
                  · rw [List.getElem?_eq_none (by rw [List.length_take]; omega), List.getElem?_eq_none (by rw [List.length_take]; omega)]
                rw [hl'e, this, List.take_append_drop]
              have hul : (t.take (n - 1)).length + 1 = n := by rw [List.length_take]; omega
              have hW : Whole lang (pieceOf lang (c :: t)).kind c (t.take (n - 1)) (t.drop (n - 1)) := by
                unfold Whole
                rw [← hct, hul, hn]; exact ⟨hE0, rfl, h7, rfl⟩
              have hS := stops_of_whole hW
              have hlt' : t'.length = t.length := by rw [hl'e] at h3; simpa using h3
              have hBl : Bl (t.drop (n - 1)) (t'.drop (n - 1)) := by
                refine ⟨by simp; omega, fun i => ?_⟩
                rw [List.getElem?_drop, List.getElem?_drop]
                have := hl' (n - 1 + i + 1)
                rw [hl'e, List.getElem?_cons_succ, List.getElem?_cons_succ] at this
                rw [this]
                cases t[n - 1 + i]? with
                | none => exact .inl rfl
                | some x =>
                  simp only [Option.map_some, Option.some.injEq]
                  split
                  · exact .inr rfl
                  · exact .inl rfl
              have hS' := stops_blanked hS hBl
              have htk := pieceOf_take lang c t h7 hE0
              have hctn : (c :: t).take n = c :: t.take (n - 1) := by
                rw [show n = (n - 1) + 1 by omega, List.take_succ_cons]; rfl
              rw [hn, hctn] at htk
              rw [hct', pieceOf_app lang c _ _ (by rw [htk]; exact h7) (by rw [htk]; exact hE0) (by rw [htk, hn, hul]) hS', htk]
            · have hsp := pieceOf_space lang c t h7 h8
              rw [hl'e, pieceOf, if_pos hsp.1, pieceOf, if_pos hsp.1]
          obtain ⟨g', rfl⟩ : ∃ g', g = g' + 1 := ⟨g - 1, by omega⟩
          have hfg : ∀ (F : Nat), l'.length ≤ F + n → (F + n) - n = F := fun F _ => by omega
          rw [hl'e] at hP i1 i2 i3 h2 ⊢
          have hst := bare_fuel lang (g' + 1 - n) g' ((c :: t').drop n) (a + n) (by simp at h2 ⊢; omega) (by simp at h2 ⊢; omega)
          rw [pieceErr, pieces, hP, if_neg hE, if_neg hE, hn, ← hst.1, ← hst.2, i1]
          refine ⟨rfl, ?_, ?_⟩
          · rw [hps, List.filter_cons, List.filter_cons, i2]
          · rw [List.filter_cons_of_neg (by simp [isCom, h8])]; exact i3
      · intro i
        rw [List.getElem?_drop, List.getElem?_drop, hl' (n + i)]
        cases hx : (c :: t)[n + i]? with
        | none => rfl
        | some x =>
          simp only [Option.map_some, Option.some.injEq]
          have hcv : cov ((pieces lang (f + 1) (c :: t) a).filter isCom) (a + (n + i)) = cov ((pieces lang f ((c :: t).drop n) (a + n)).filter isCom) (a + n + i) := by
            rw [hps, List.filter_cons, ← Nat.add_assoc]
            split
            · rw [Bool.eq_iff_iff, cov_iff, cov_iff]
              constructor
              · rintro ⟨p, hp, h4, h5⟩
                rcases List.mem_cons.1 hp with rfl | hp
                · simp at h5; omega
                · exact ⟨p, hp, h4, h5⟩
              · rintro ⟨p, hp, h4⟩
                exact ⟨p, by simp [hp], h4⟩
            · rfl
          rw [hcv]
end Go.Proofs.YtknbmnckegonlaaGreatDoor
