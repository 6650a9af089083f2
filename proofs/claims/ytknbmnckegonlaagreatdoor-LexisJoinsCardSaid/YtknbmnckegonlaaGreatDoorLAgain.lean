/- The law that what is written is read again and written again the same, walked. -/
import Derived.Test.YtknbmnckegonlaaGreatDoorAgain
import Derived.Test.YtknbmnckegonlaaGreatDoorIn
import Derived.Test.YtknbmnckegonlaaGreatDoorRefI
import Derived.Test.YtknbmnckegonlaaGreatDoorFrame
namespace Go.Proofs.YtknbmnckegonlaaGreatDoor
open Go.RowKit

theorem fewFrom_len : ∀ (ts : List Tok) (k : Nat), fewFrom k ts = true → ∀ t ∈ ts, t.text.length ≤ 300
  | [], _, _, t, ht => by cases ht
  | x :: r, k, h, t, ht => by
    rw [fewFrom] at h
    cases hl : longTok k x with
    | true => rw [hl, if_pos rfl] at h; cases h
    | false =>
      rw [hl, if_neg (by decide)] at h
      rcases List.mem_cons.1 ht with rfl | ht
      · have := of_decide_eq_false hl; omega
      · exact fewFrom_len r _ h t ht
theorem fewB_len {ts : List Tok} (h : fewB ts = true) : (∀ t ∈ ts, t.text.length ≤ 300) ∧ ts.length ≤ 1505 := by
  unfold fewB at h
  cases hm : manyLen ts.length with
  | true => rw [hm, if_pos rfl] at h; cases h
  | false =>
    rw [hm, if_neg (by decide)] at h
    have := of_decide_eq_false hm
    exact ⟨fewFrom_len ts 0 h, by omega⟩
theorem row_own {w : World} {base n : Nat} {v : Value} {ts : List Tok} (h : w.ownsRow base 43 3 v n (tokCells ts)) (hn : n = ts.length) : TokRow w w.heap.size v ts := by
  subst hn
  rcases own_cases h with ⟨rfl, h0, -⟩ | ⟨g, cap, rfl, -, hlt, -, hc⟩
  · exact ⟨none, 0, by rw [h0], .inl (List.eq_nil_of_length_eq_zero h0)⟩
  · exact ⟨some ⟨g, 0, none⟩, cap, rfl, .inr ⟨g, 0, rfl, hlt, fun j u hu => by rw [Nat.zero_add]; exact hc j u hu⟩⟩
theorem row_fr {w w' : World} {v : Value} {ts : List Tok} (h : TokRow w w.heap.size v ts) (hf : Fr w.heap.size w w') : TokRow w' w'.heap.size v ts := by
  obtain ⟨A, cap, e, h⟩ := h
  refine ⟨A, cap, e, ?_⟩
  rcases h with h | ⟨b, off, e2, hb, hc⟩
  · exact .inl h
  · exact .inr ⟨b, off, e2, Nat.lt_of_lt_of_le hb hf.2.size, fun j u hu => (hf.cell (p := ⟨b, off + j, none⟩) hb).trans (hc j u hu)⟩
theorem in_fr {w w' : World} {v : Value} {ts : List Tok} (h : TokIn w v ts) (hf : Fr w.heap.size w w') : TokIn w' v ts := by
  obtain ⟨A, cap, e, h1, h2, h3, h4⟩ := h
  exact ⟨A, cap, e, h1, fun a ha j u hu => (hf.cell (block_lt_of_cell (h2 a ha j u hu))).trans (h2 a ha j u hu), h3, h4⟩
theorem joinRes_bad {lang : Int} {ts : List Tok} (h : (joinRes lang ts).2 ≠ 0) : (joinRes lang ts).1 = [] := by
  unfold joinRes at h ⊢
  split
  · rfl
  · split
    · rfl
    · split
      · rfl
      · split
        · rfl
        · rename_i h1 h2 h3 h4
          rw [if_neg h1, if_neg h2, if_neg h3, if_neg h4] at h
          exact absurd rfl h
theorem joinRes_len (lang : Int) (ts : List Tok) : (joinRes lang ts).1.length ≤ 8000 := by
  by_cases h : (joinRes lang ts).2 = 0
  · exact (readErr_ok (by rw [(joined_read h).1])).2.1
  · rw [joinRes_bad h]; simp
theorem sameKt {a b : List Tok} (h : a.map kt = b.map kt) : sameToks a b = true := decide_eq_true h

set_option maxRecDepth 100000 in
set_option maxHeartbeats 4000000 in
theorem lexisAgain_any (lang : Int) (v : Value) (ts : List Tok) (w : World) (hin : TokIn w v ts) (hg : Hid (Glob w)) :
    Calls Tryz.prog 9 #[.int .i64 lang, v] w fun e w' => e = .returned (.bool true) ∧ Fr w.heap.size w w' := by
  have hin0 := hin
  obtain ⟨A, cap, hv, -, -, hl1, hl2⟩ := hin0
  have Haw := Lib.hid (awake_any w hg)
  have Hin := Lib.hid hin
  have Hfe := Lib.hid (fun w' (h : Fr w.heap.size w w') => few_any v ts w' (in_fr hin h).row hl1 hl2)
  subst hv
  clear hin hl1 hl2
  cases hfw : fewB ts with
  | false =>
    have Hb := Lib.hid hfw
    clear hfw
    go_enter Tryz.func9, Tryz.ntmps9
    go_wp2_with fail
    refine (Haw.out).mono ?_
    rintro e w1 ⟨rfl, hf⟩
    go_wp2_with (go_at_call 32; refine (Hfe.out _ hf).mono ?_; rintro e w'' ⟨rfl, rfl⟩; rw [Hb.out])
    go_ret
    exact ⟨rfl, hf⟩
  | true =>
    obtain ⟨hlt, hln⟩ := fewB_len hfw
    have Hb := Lib.hid hfw
    clear hfw
    by_cases h60 : 60 < ts.length
    · go_enter Tryz.func9, Tryz.ntmps9
      go_wp2_with fail
      refine (Haw.out).mono ?_
      rintro e w1 ⟨rfl, hf⟩
      go_wp2_with (go_at_call 32; refine (Hfe.out _ hf).mono ?_; rintro e w'' ⟨rfl, rfl⟩; rw [Hb.out])
      go_ret
      exact ⟨rfl, hf⟩
    · have Hlt := Lib.hid hlt
      clear hlt
      go_enter Tryz.func9, Tryz.ntmps9
      go_wp2_with fail
      refine (Haw.out).mono ?_
      rintro e w1 ⟨rfl, hf⟩
      go_wp2_with (go_at_call 32; refine (Hfe.out _ hf).mono ?_; rintro e w'' ⟨rfl, rfl⟩; rw [Hb.out])
      refine (ownTokens_any _ ts _ (in_fr Hin.out hf).arg (by omega)).mono ?_
      rintro e w2 ⟨⟨v2, rfl, hown2⟩, hf2⟩
      have hfa := hf.trans hf2
      go_wp2_with fail
      refine (joinedText_any lang v2 ts _ (row_own hown2 rfl) (fun t ht => by have := Hlt.out t ht; omega) (by unfold maxLen; omega) (Glob.fr hg hfa)).mono ?_
      rintro e w3 ⟨rfl, hf3⟩
      have hfb := hfa.trans hf3
      have hjl := joinRes_len lang ts
      clear hown2 hf2 hf3 hfa hf
      by_cases he : (joinRes lang ts).2 = 0
      · have hbe : ((joinRes lang ts).2 != 0) = false := by simp [he]
        obtain ⟨hr1, hr2⟩ := joined_read he
        have hja := joined_again he
        generalize hx : (joinRes lang ts).1 = x at *
        have Hr1 := Lib.hid hr1; have Hr2 := Lib.hid hr2; have Hja := Lib.hid hja; have He := Lib.hid he
        clear hr1 hr2 hja he hx
        go_wp2_with fail
        refine (tokensOf_any lang ⟨x.toArray⟩ x rfl _ (by rw [ba_size, ba_mk]; unfold maxLen; omega) (Glob.fr hg hfb)).mono ?_
        rintro e w4 ⟨v4, rfl, hf4, hown4⟩
        have hfc := hfb.trans hf4
        have hmt : ∀ t ∈ outToks lang x, t.text.length ≤ 9000 := fun t ht => by
          obtain ⟨-, -, k, -, h1, -⟩ := token_right lang x t ht
          omega
        have hml : (outToks lang x).length = ts.length := by have := congrArg List.length Hr2.out; simpa using this
        have hro := row_own hown4 rfl
        have hst := sameTokens_any (.slice A ts.length cap) v4 ts (outToks lang x) w4 (row_fr Hin.out.row hfc) hro (by omega) (by omega)
        rw [sameKt Hr2.out.symm] at hst
        have hjt := fun w5 (h : Fr w4.heap.size w4 w5) => joinedText_any lang v4 (outToks lang x) w5 (row_fr hro h) hmt (by unfold maxLen; omega) (Glob.fr hg (hfc.trans h))
        rw [Hja.out] at hjt
        have Hst := Lib.hid hst; have Hjt := Lib.hid hjt
        rw [Hr1.out]
        clear hown4 hmt hml hst hjt hro hf4 hfb
        go_wp2_with (go_at_call 20; refine (Hst.out).mono ?_; rintro e w5 ⟨rfl, hf5⟩)
        refine (Hjt.out _ hf5).mono ?_
        rintro e w6 ⟨rfl, hf6⟩
        go_wp2_with fail
        go_ret
        exact ⟨rfl, (hfc.trans hf5).trans hf6⟩
      · have hbe : ((joinRes lang ts).2 != 0) = true := by simp [he]
        have hx := joinRes_bad he
        rw [hx]
        clear he hx hjl
        go_wp2_with fail
        go_ret
        exact ⟨rfl, hfb⟩
end Go.Proofs.YtknbmnckegonlaaGreatDoor
