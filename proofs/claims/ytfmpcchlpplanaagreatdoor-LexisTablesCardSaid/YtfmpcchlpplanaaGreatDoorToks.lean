/- The contract on the tokens of a text. -/
import Derived.Test.YtfmpcchlpplanaaGreatDoorPieces
import Derived.Deep.RegionHeld3
import Derived.Deep.AppendLies
namespace Go.Proofs.YtfmpcchlpplanaaGreatDoor
open Go.RowKit

theorem own_cases {w : World} {base : Nat} {e : TypeId} {size n : Nat} {v : Value} {xs : List Value} (h : w.ownsRow base e size v n xs) :
    (v = .slice none 0 0 ∧ n = 0 ∧ xs = []) ∨ ∃ g cap, v = .slice (some ⟨g, 0, none⟩) n cap ∧ base ≤ g ∧ g < w.heap.size ∧ n ≤ cap ∧ ∀ (j : Nat) (u : Value), xs[j]? = some u → w.cell? ⟨g, j, none⟩ = some u := by
  obtain ⟨hl, h⟩ := h
  rcases h with ⟨hv, hn⟩ | ⟨g, cap, cur, hv, hb, hh, hnc, hcm, hcur, htk⟩
  · refine .inl ⟨hv, hn, ?_⟩
    subst hn
    exact List.eq_nil_of_length_eq_zero (by omega)
  · refine .inr ⟨g, cap, hv, hb, ?_, hnc, fun j u hu => ?_⟩
    · rcases Nat.lt_or_ge g w.heap.size with h | h
      · exact h
      · rw [Array.getElem?_eq_none h] at hh; cases hh
    · rw [cell_of_row w g j cur e (0, 0) hh]
      rw [← htk] at hu
      rw [List.getElem?_take] at hu
      split at hu
      · simpa using hu
      · cases hu
theorem own_base {w : World} {base base' : Nat} {e : TypeId} {size n : Nat} {v : Value} {xs : List Value} (h : w.ownsRow base e size v n xs) (hb : base' ≤ base) : w.ownsRow base' e size v n xs := by
  refine ⟨h.1, ?_⟩
  rcases h.2 with h | ⟨g, cap, cur, hv, hg, hr⟩
  · exact .inl h
  · exact .inr ⟨g, cap, cur, hv, Nat.le_trans hb hg, hr⟩
theorem pcCells_get : ∀ (ps : List Pc) (k : Nat) (p : Pc), ps[k]? = some p → (pcCells ps)[k * 3]? = some (.int .i64 p.kind) ∧ (pcCells ps)[k * 3 + 1]? = some (.int .i64 p.fr) ∧ (pcCells ps)[k * 3 + 2]? = some (.int .i64 p.to)
  | [], k, p, h => by simp at h
  | q :: ps, 0, p, h => by simp at h; subst h; simp [pcCells]
  | q :: ps, k + 1, p, h => by
    have ih := pcCells_get ps k p (by simpa using h)
    have e : pcCells (q :: ps) = [Value.int .i64 q.kind, .int .i64 q.fr, .int .i64 q.to] ++ pcCells ps := rfl
    have e0 : (k + 1) * 3 = 3 + k * 3 := by omega
    rw [e, e0]
    refine ⟨?_, ?_, ?_⟩
    · rw [List.getElem?_append_right (by simp), ← ih.1]; congr 1; simp
    · rw [List.getElem?_append_right (by simp; omega), ← ih.2.1]; congr 1; simp; omega
    · rw [List.getElem?_append_right (by simp; omega), ← ih.2.2]; congr 1; simp; omega
theorem pieces_in (lang : Int) : ∀ (f : Nat) (l : List UInt8) (a : Nat), ∀ p ∈ pieces lang f l a, a ≤ p.fr ∧ p.fr ≤ p.to ∧ p.to ≤ a + l.length
  | 0, l, a, p, h => by simp [pieces] at h
  | f + 1, [], a, p, h => by simp [pieces] at h
  | f + 1, c :: t, a, p, h => by
    rw [pieces] at h
    split at h
    · simp at h
    · rename_i he
      have hl := pieceOf_len lang c t (by simpa using he)
      rw [List.mem_cons] at h
      rcases h with rfl | h
      · simp; omega
      · have := pieces_in lang f _ _ p h
        rw [List.length_drop] at this
        simp at this ⊢
        omega
theorem outPcs_in {lang : Int} {l : List UInt8} {p : Pc} (h : p ∈ outPcs lang l) : p.fr ≤ p.to ∧ p.to ≤ l.length := by
  unfold outPcs at h
  split at h
  · have := pieces_in _ _ _ _ p h; omega
  · simp at h
theorem pieces_length (lang : Int) : ∀ (f : Nat) (l : List UInt8) (a : Nat), (pieces lang f l a).length ≤ l.length
  | 0, l, a => by simp [pieces]
  | f + 1, [], a => by simp [pieces]
  | f + 1, c :: t, a => by
    rw [pieces]
    split
    · simp
    · rename_i he
      have hl := pieceOf_len lang c t (by simpa using he)
      have := pieces_length lang f ((c :: t).drop (pieceOf lang (c :: t)).len) (a + (pieceOf lang (c :: t)).len)
      rw [List.length_drop] at this
      simp at this ⊢
      omega
theorem outPcs_length (lang : Int) (l : List UInt8) : (outPcs lang l).length ≤ l.length := by
  unfold outPcs; split
  · exact pieces_length _ _ _ _
  · simp
theorem pieceErr_ne (lang : Int) : ∀ (f : Nat) (l : List UInt8) (a : Nat) (e : Nat × Int), pieceErr lang f l a = some e → ¬ e.2 = 0
  | 0, l, a, e, h => by simp [pieceErr] at h
  | f + 1, [], a, e, h => by simp [pieceErr] at h
  | f + 1, c :: t, a, e, h => by
    rw [pieceErr] at h
    split at h
    · rename_i he; cases h; exact he
    · exact pieceErr_ne lang f _ _ e h
theorem readErr_ok {lang : Int} {l : List UInt8} (h : (readErr lang l).2 = 0) : (lang = 0 ∨ lang = 1) ∧ l.length ≤ 8000 ∧ badAt l = none ∧ pieceErr lang l.length l 0 = none ∧ (tokPcs lang l).length ≤ 1500 ∧ readErr lang l = (0, 0) := by
  unfold readErr at h ⊢
  by_cases h1 : lang = 0 ∨ lang = 1
  · rw [if_neg (fun h => h h1)] at h ⊢
    by_cases h2 : 8000 < l.length
    · rw [if_pos h2] at h; simp at h
    · rw [if_neg h2] at h ⊢
      cases hb : badAt l with
      | some i => rw [hb] at h; simp at h
      | none =>
        rw [hb] at h
        simp only at h ⊢
        cases hp : pieceErr lang l.length l 0 with
        | some e => rw [hp] at h; simp only at h; exact absurd h (pieceErr_ne _ _ _ _ _ hp)
        | none =>
          rw [hp] at h
          simp only at h ⊢
          by_cases h3 : 1500 < (tokPcs lang l).length
          · rw [if_pos h3] at h; simp at h
          · rw [if_neg h3]; exact ⟨h1, by omega, by first | rfl | trivial, by first | rfl | trivial, by omega, rfl⟩
  · rw [if_pos h1] at h; simp at h

def tokCells (l : List Tok) : List Value := l.flatMap fun t => [.int .i64 t.kind, .string ⟨t.text.toArray⟩, .int .i64 t.pos]
def outToks (lang : Int) (l : List UInt8) : List Tok := ((outPcs lang l).filter isTok).map (tokOf l)
def TokensPost (lang : Int) (l : List UInt8) (w : World) (e : Ending) (w' : World) : Prop :=
  ∃ v, e = .returned (.tuple #[v, .int .i64 ((readErr lang l).1 : Int), .int .i64 (readErr lang l).2]) ∧ Fr w.heap.size w w' ∧ w'.ownsRow w.heap.size 43 3 v (outToks lang l).length (tokCells (outToks lang l))
theorem token_info : (Tryz.prog.info? 43).map (fun i => (i.zero, i.size, i.bytes)) = some (some (.agg #[.int .i64 0, .string ⟨#[]⟩, .int .i64 0]), 3, 32) := by kernel_rfl
set_option maxRecDepth 100000 in
theorem tokensOf_any (lang : Int) (s : ByteArray) (l : List UInt8) (hs : s.data.toList = l) (w : World) (hm : s.size ≤ maxLen) (hg : Hid (Glob w)) :
    Calls Tryz.prog 13 #[.int .i64 lang, .string s] w (TokensPost lang l w) := by
  have hpo := piecesOf_any lang s l hs w hm hg
  have Hs := Lib.hid hs; have Hpo := Lib.hid hpo; clear hs hpo
  go_enter Tryz.func13, Tryz.ntmps13
  go_wp2_with fail
  refine Hpo.out.mono ?_
  rintro e w1 ⟨v, rfl, hf1, hown1⟩
  by_cases he : (readErr lang l).2 = 0
  · obtain ⟨hlang, h8, -, -, -, hre⟩ := readErr_ok he
    have hin := fun p h => outPcs_in (lang := lang) (l := l) (p := p) h
    have hln := outPcs_length lang l
    have Hre := Lib.hid hre; clear hre he
    rw [Hre.out]
    rcases own_cases hown1 with ⟨rfl, hn, -⟩ | ⟨g, cap, rfl, hgb, hgl, hnc, hcells⟩
    · have hnil : outPcs lang l = [] := List.eq_nil_of_length_eq_zero hn
      have ho : outToks lang l = [] := by unfold outToks; rw [hnil]; rfl
      have Ho := Lib.hid ho; clear ho hnil hn hin hln hown1
      go_wp2_with fail
      refine wp_loop_rounds 1 ?_
      rw [rounds_succ]
      go_wp2_with fail
      go_ret3
      exact ⟨.slice none 0 0, by rw [Hre.out]; rfl, hf1, by rw [Ho.out]; exact ⟨rfl, .inl ⟨rfl, rfl⟩⟩⟩
    · generalize hps : outPcs lang l = ps at *
      have ho : outToks lang l = (ps.filter isTok).map (tokOf l) := by unfold outToks; rw [hps]
      have hle := ba_len Hs.out
      have hlp : ps.length ≤ 8000 := by omega
      have Ho := Lib.hid ho; have Hcells := Lib.hid hcells; have Hin := Lib.hid hin
      clear ho hps hcells hin hown1
      go_wp2_with fail
      go_loopw [10, 26] (fun v i wr => ∃ k : Nat, k ≤ ps.length ∧ i = .int .i64 k ∧ Fr w1.heap.size w1 wr ∧ wr.ownsRow w1.heap.size 43 3 v ((ps.take k).filter isTok).length (tokCells (((ps.take k).filter isTok).map (tokOf l)))) (fun _ i _ => ps.length - (intOf i).toNat)
      case atStart => exact ⟨0, by omega, rfl, Fr.self w1, ⟨rfl, .inl ⟨rfl, rfl⟩⟩⟩
      case round =>
        obtain ⟨k, hk, rfl, hfr, hown⟩ := hrel
        have hgrow := hfr.le
        by_cases hkl : k < ps.length
        · obtain ⟨⟨pk, pa, pb⟩, hp⟩ : ∃ p, ps[k]? = some p := ⟨_, List.getElem?_eq_getElem hkl⟩
          have hpc := pcCells_get ps k _ hp
          have hpi := Hin.out _ (List.mem_of_getElem? hp)
          have g0 : wr.cell? ⟨g, k * 3, none⟩ = some (.int .i64 pk) := (hfr.cell (p := ⟨g, _, none⟩) hgl).trans (Hcells.out _ _ hpc.1)
          have g1 : wr.cell? ⟨g, k * 3 + 1, none⟩ = some (.int .i64 pa) := (hfr.cell (p := ⟨g, _, none⟩) hgl).trans (Hcells.out _ _ hpc.2.1)
          have g2 : wr.cell? ⟨g, k * 3 + 2, none⟩ = some (.int .i64 pb) := (hfr.cell (p := ⟨g, _, none⟩) hgl).trans (Hcells.out _ _ hpc.2.2)
          have hpa : pa ≤ pb := hpi.1
          have hpb : pb ≤ s.size := by have := hpi.2; simp at this; omega
          have hsz8 : s.size ≤ 8000 := by omega
          have Hp := Lib.hid hp
          clear hpc hpi hp
          have hfl : ((ps.take k).filter isTok).length ≤ 8000 := by
            have := List.length_filter_le isTok (ps.take k)
            rw [List.length_take] at this
            omega
          have hex : s.extract pa pb = ⟨((l.drop pa).take (pb - pa)).toArray⟩ := by rw [Lib.extract_eq, Hs.out]
          have Hex := Lib.hid hex; clear hex
          obtain ⟨i0, hi0, hz0, hz1, hz2⟩ := info_parts token_info
          by_cases ht : pk < 7
          · have htk : (ps.take (k + 1)).filter isTok = (ps.take k).filter isTok ++ [⟨pk, pa, pb⟩] := by
              rw [List.take_add_one, Hp.out, List.filter_append]; simp [isTok, ht]
            have Htk := Lib.hid htk; clear htk
            go_wp2_with fail
            refine (isToken_any _ _ _ _).mono ?_
            rintro e w2 ⟨rfl, hf2⟩
            have hsz2 : wr.heap.size + 1 ≤ w2.heap.size := by have := hf2.2.size; simpa using this
            have hcell : ∀ o, w2.cell? ⟨wr.heap.size, o, none⟩ = (#[Value.int .i64 pk, .int .i64 pa, .int .i64 pb] : Array Value)[o]? := fun o => (hf2.cell (p := ⟨wr.heap.size, o, none⟩) (by simp)).trans (cell_new _ _ _ _)
            have c0 := hcell 0
            have c1 := hcell 1
            have c2 := hcell 2
            simp at c0 c1 c2
            have hf12 : Fr wr.heap.size wr w2 := Fr.trans (Fr.alloc (Fr.self wr) _) hf2
            have hown2 := own_below hown hf12.2
            have hlt2 := fun g => own_lt hown (g := g)
            clear hcell
            go_wp2_with fail
            have b1 : (0 : Int) ≤ pa := by omega
            have b2 : (pa : Int) ≤ pb := by omega
            have b3 : (pb : Int) ≤ s.size := by omega
            have sl1 := fun W => run_slice_string (P := Tryz.prog) (w := W) 9 s .i64 .i64 (pa : Int) (pb : Int) Tryz.underlying9 (by omega) (by omega) (by omega)
            have hfar : some wr.heap.size ≠ u10.ownBlock := fun e => by have := (hlt2 _ e.symm).2; omega
            have hlw : wr.heap.size < (w2.alloc (.cells #[.int .i64 pk, .string (s.extract pa pb), .int .i64 pa] 43)).drew.heap.size := by simp; omega
            go_region_held3 (fun w' => w'.cell? ⟨wr.heap.size, 0, none⟩ = some (.int .i64 pk) ∧ w'.cell? ⟨wr.heap.size, 1, none⟩ = some (.int .i64 pa) ∧ w'.cell? ⟨wr.heap.size, 2, none⟩ = some (.int .i64 pb))
              (first
                | go_keep
                | (go_split_ands
                   refine ⟨?_, ?_, ?_⟩
                   · (rw [hg3.cell_far (a := ⟨wr.heap.size, 0, none⟩) hlw hfar]; assumption)
                   · (rw [hg3.cell_far (a := ⟨wr.heap.size, 1, none⟩) hlw hfar]; assumption)
                   · (rw [hg3.cell_far (a := ⟨wr.heap.size, 2, none⟩) hlw hfar]; assumption)))
              ((refine step_append_lies _ (by rfl) _ _ _ (by rfl) w1.heap.size 43 i0 _ 3 32 Tryz.underlying33 hi0 hz0 hz1 hz2 rfl (by omega) _ _ _ (by rfl) ((hown2.alloc _).drew)
                  ⟨w2.heap.size, 0, none⟩ 1 1 [.int .i64 pk, .string (s.extract pa pb), .int .i64 pa] (by rfl) (by rfl) (fun j u h => cells_new w2 _ _ j u h) (by simp [Value.oneCell'])
                  (by omega) (by unfold maxLen; omega) (by omega) (by simp; omega) (w2.heap.size + 1) (by simp) ?_; intro gg gcap w3 hown3 hg3 hat hlt3))
            have hfr3 : Fr w1.heap.size w1 w3 := ((hfr.trans hf12).alloc _).drew.grown hg3 (fun g hg => (hlt2 g hg).1)
            have Hown3 := Lib.hid hown3
            clear hg3 hlt2 hown3 hown2 hf12 hf2 c0 c1 c2 hfar hlw hat hlt3 sl1
            go_wp2_with fail
            go_roundw
            case rel =>
              refine ⟨k + 1, by omega, by go_num, hfr3, ?_⟩
              rw [Htk.out]
              have := Hown3.out
              rw [List.length_append, List.map_append, tokCells, List.flatMap_append]
              simp only [List.map_cons, List.map_nil, List.flatMap_cons, List.flatMap_nil, List.append_nil, tokOf]
              rw [Hex.out] at this
              exact this
            case measure => simp [intOf] <;> omega
          · have htk : (ps.take (k + 1)).filter isTok = (ps.take k).filter isTok := by
              rw [List.take_add_one, Hp.out, List.filter_append]; simp [isTok, ht]
            have Htk := Lib.hid htk; clear htk
            go_wp2_with fail
            refine (isToken_any _ _ _ _).mono ?_
            rintro e w2 ⟨rfl, hf2⟩
            have hf12 : Fr wr.heap.size wr w2 := Fr.trans (Fr.alloc (Fr.self wr) _) hf2
            have hown2 := own_below hown hf12.2
            have hfr3 := hfr.trans hf12
            go_wp2_with fail
            go_roundw
            case rel => exact ⟨k + 1, by omega, by go_num, hfr3, by rw [Htk.out]; exact hown2⟩
            case measure => simp [intOf] <;> omega
        · have hke : ps.take k = ps := List.take_of_length_le (by omega)
          rw [hke] at hown
          have Hown := Lib.hid hown; clear hown hke
          go_wp2_with fail
          go_ret3
          exact ⟨_, by rw [Hre.out]; rfl, hf1.trans hfr, by rw [Ho.out, List.length_map]; exact own_base Hown.out hf1.2.size⟩
  · have hb : ((readErr lang l).2 != 0) = true := by simp [he]
    have ho : outToks lang l = [] := by simp [outToks, outPcs, he]
    have Ho := Lib.hid ho; clear ho he
    go_wp2_with fail
    go_ret3
    exact ⟨.slice none 0 0, rfl, hf1, by rw [Ho.out]; exact ⟨rfl, .inl ⟨rfl, rfl⟩⟩⟩
end Go.Proofs.YtfmpcchlpplanaaGreatDoor
