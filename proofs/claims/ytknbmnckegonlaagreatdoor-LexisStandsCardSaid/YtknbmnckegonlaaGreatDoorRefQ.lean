/- The contract on the reference's reading. -/
import Derived.Test.YtknbmnckegonlaaGreatDoorRefM
import Derived.Test.YtknbmnckegonlaaGreatDoorRefI
import Derived.Test.YtknbmnckegonlaaGreatDoorComs
import Derived.Test.YtknbmnckegonlaaGreatDoorCover
import Derived.Deep.RegionLaw
import Derived.Deep.AppendLies
namespace Go.Proofs.YtknbmnckegonlaaGreatDoor
open Go.RowKit

theorem own_kept {w w' : World} {base : Nat} {e : TypeId} {size n : Nat} {v : Value} {xs : List Value} (h : w.ownsRow base e size v n xs) (hb : ∀ g, v.ownBlock = some g → w'.heap[g]? = w.heap[g]?) : w'.ownsRow base e size v n xs := by
  refine ⟨h.1, ?_⟩
  rcases h.2 with h | ⟨g, cap, cur, hv, hg, hh, hr⟩
  · exact .inl h
  · exact .inr ⟨g, cap, cur, hv, hg, (hb g (by rw [hv]; rfl)).trans hh, hr⟩
theorem own_apart {w : World} {b1 b2 : Nat} {e1 e2 : TypeId} {s1 s2 n1 n2 : Nat} {v1 v2 : Value} {xs1 xs2 : List Value} (h1 : w.ownsRow b1 e1 s1 v1 n1 xs1) (h2 : w.ownsRow b2 e2 s2 v2 n2 xs2) (hne : e1 ≠ e2) :
    ∀ g, v1.ownBlock = some g → v2.ownBlock ≠ some g := by
  intro g hg1 hg2
  rcases h1.2 with ⟨rfl, _⟩ | ⟨g1, cap1, cur1, rfl, _, hh1, _⟩
  · cases hg1
  · rcases h2.2 with ⟨rfl, _⟩ | ⟨g2, cap2, cur2, rfl, _, hh2, _⟩
    · cases hg2
    · simp [Value.ownBlock] at hg1 hg2
      subst hg1; subst hg2
      rw [hh1] at hh2
      injection hh2 with hh2
      injection hh2 with _ ht
      exact hne ht
theorem own_form {w : World} {base : Nat} {e : TypeId} {size n : Nat} {v : Value} {xs : List Value} (h : w.ownsRow base e size v n xs) : ∃ A cap, v = .slice A n cap := by
  rcases h.2 with ⟨rfl, rfl⟩ | ⟨g, cap, cur, rfl, _⟩
  · exact ⟨_, _, rfl⟩
  · exact ⟨_, _, rfl⟩
theorem com_row {w : World} {base : Nat} {v : Value} {ps : List Pc} {qk : Int} {k E : Nat} (h : w.ownsRow base 48 2 v (ps.length + 1) (comCells ps ++ [.int .i64 (k : Int), .int .i64 (E : Int)])) : w.ownsRow base 48 2 v (ps ++ [Pc.mk qk k E]).length (comCells (ps ++ [Pc.mk qk k E])) := by
  rw [List.length_append, comCells, List.flatMap_append]
  simp only [List.flatMap_cons, List.flatMap_nil, List.append_nil]
  exact h
theorem tok_row {w : World} {base : Nat} {v : Value} {l : List UInt8} {ps : List Pc} {qk : Int} {k E : Nat} {x : ByteArray} (hx : x = ⟨((l.drop k).take (E - k)).toArray⟩)
    (h : w.ownsRow base 43 3 v (ps.length + 1) (tokCells (ps.map (tokOf l)) ++ [.int .i64 qk, .string x, .int .i64 (k : Int)])) : w.ownsRow base 43 3 v (ps ++ [Pc.mk qk k E]).length (tokCells ((ps ++ [Pc.mk qk k E]).map (tokOf l))) := by
  subst hx
  rw [List.length_append, List.map_append, tokCells, List.flatMap_append]
  simp only [List.map_cons, List.map_nil, List.flatMap_cons, List.flatMap_nil, List.append_nil, tokOf]
  exact h
/-- What the reference's Read hands back. -/
def ReadPost (lang : Int) (l : List UInt8) (w : World) (e : Ending) (w' : World) : Prop :=
  ∃ r vt vc, e = .returned (.pointer (some ⟨r, 0, none⟩)) ∧ w.heap.size ≤ r ∧ w'.heap[r]? = some (.cells #[vt, vc, .int .i64 ((readErr lang l).1 : Int), .int .i64 (readErr lang l).2] 40 (0, 0)) ∧ Fr w.heap.size w w' ∧
    w'.ownsRow w.heap.size 43 3 vt (outToks lang l).length (tokCells (outToks lang l)) ∧ w'.ownsRow w.heap.size 48 2 vc (outComs lang l).length (comCells (outComs lang l))
theorem ReadPost.error {lang : Int} {l : List UInt8} {w w' : World} {r : Nat} {a e : Int} (hv : ((readErr lang l).1 : Int) = a ∧ (readErr lang l).2 = e) (he : e ≠ 0) (hr : w.heap.size ≤ r) (hh : w'.heap[r]? = some (.cells #[.slice none 0 0, .slice none 0 0, .int .i64 a, .int .i64 e] 40 (0, 0))) (hf : Fr w.heap.size w w') :
    ReadPost lang l w (.returned (.pointer (some ⟨r, 0, none⟩))) w' := by
  obtain ⟨h1, h2⟩ := hv
  have ho : outPcs lang l = [] := by unfold outPcs; rw [if_neg (by rw [h2]; exact he)]
  have ht : outToks lang l = [] := by unfold outToks; rw [ho]; rfl
  have hc : outComs lang l = [] := by unfold outComs; rw [ho]; rfl
  exact ⟨r, .slice none 0 0, .slice none 0 0, rfl, hr, by rw [h1, h2]; exact hh, hf, by rw [ht]; exact ⟨rfl, .inl ⟨rfl, rfl⟩⟩, by rw [hc]; exact ⟨rfl, .inl ⟨rfl, rfl⟩⟩⟩

set_option maxRecDepth 100000 in
set_option maxHeartbeats 8000000 in
theorem read_any (lang : Int) (s : ByteArray) (l : List UInt8) (hs : s.data.toList = l) (w : World) (hm : s.size ≤ maxLen) :
    Calls Tryz.prog 19 #[.int .i64 lang, .string s] w (ReadPost lang l w) := by
  have hf := Fr.self w
  have hct := fun W => rCheck_any s l hs W hm
  have hlen := ba_len hs
  by_cases hlang : lang = 0 ∨ lang = 1
  · have Hil : Hid (∀ w, Calls Tryz.prog 25 #[.int .i64 lang] w fun e w' => e = .returned (.bool true) ∧ w = w') := fun w => by have := isLang_any lang w; rw [decide_eq_true hlang] at this; exact this
    by_cases h1 : (checkText l).2 = 0
    · have h8 : ¬ 8000 < l.length := by
        intro h; unfold checkText at h1; rw [if_pos h] at h1; cases h1
      have hbad : badAt l = none := by
        cases hb : badAt l with
        | none => rfl
        | some i => unfold checkText at h1; rw [if_neg h8, hb] at h1; cases h1
      have hb1 : ((checkText l).2 != 0) = false := by rw [h1]; rfl
      have hs8 : s.size ≤ 8000 := by omega
      have Hs := Lib.hid hs; have Hct := Lib.hid hct; have Hlen := Lib.hid hlen; have H1 := Lib.hid h1
      clear hs hct hlen h1
      go_enter Tryz.func19, Tryz.ntmps19
      go_wp2_with (first | (go_at_call 25; refine (Hil.out _).mono ?_; rintro e w' ⟨rfl, rfl⟩) | (go_at_call 15; refine (Hct.out _).mono ?_; rintro e w' ⟨rfl, rfl⟩))
      go_loopw [8] (fun i wr => ∃ (k f : Nat) (done : List Pc) (vt vc : Value), k ≤ s.size ∧ s.size ≤ f + k ∧ i = .int .i64 k ∧ done.length ≤ k ∧ Fr w.heap.size w wr ∧
          wr.heap[w.heap.size]? = some (.cells #[vt, vc, .int .i64 0, .int .i64 0] 40 (0, 0)) ∧
          wr.ownsRow (w.heap.size + 1) 43 3 vt (done.filter isTok).length (tokCells ((done.filter isTok).map (tokOf l))) ∧
          wr.ownsRow (w.heap.size + 1) 48 2 vc (done.filter isCom).length (comCells (done.filter isCom)) ∧
          Hid (pieces lang l.length l 0 = done ++ pieces lang f (l.drop k) k) ∧ Hid (pieceErr lang l.length l 0 = pieceErr lang f (l.drop k) k)) (fun i _ => s.size - (intOf i).toNat)
      case atStart => exact ⟨0, l.length, [], .slice none 0 0, .slice none 0 0, by omega, by have := Hlen.out; omega, rfl, by simp, hf.alloc _, heap_alloc_new _ _, ⟨rfl, .inl ⟨rfl, rfl⟩⟩, ⟨rfl, .inl ⟨rfl, rfl⟩⟩, rfl, rfl⟩
      case round =>
        obtain ⟨k, f, done, vt, vc, hk, hkf, rfl, hdk, hfr, hx, hot, hoc, HP, HE⟩ := hrel
        have hfl : (done.filter isTok).length ≤ 8000 := by
          have := List.length_filter_le isTok done
          have := Hlen.out
          omega
        have hcl : (done.filter isCom).length ≤ 8000 := by
          have := List.length_filter_le isCom done
          have := Hlen.out
          omega
        have hgrow := hfr.le
        have hxl := block_lt hx
        have hx0 : wr.cell? ⟨w.heap.size, 0, none⟩ = some vt := by rw [Lib.cell_of_heap hx]; rfl
        have hx1 : wr.cell? ⟨w.heap.size, 1, none⟩ = some vc := by rw [Lib.cell_of_heap hx]; rfl
        rcases hd : l.drop k with _ | ⟨c, t⟩
        · have hge := ba_end Hs.out k hd
          have hpn : pieces lang f [] k = [] := by cases f <;> rfl
          have hen : pieceErr lang f [] k = none := by cases f <;> rfl
          have hp1 : pieces lang l.length l 0 = done := by rw [HP.out, hd, hpn, List.append_nil]
          have hp2 : pieceErr lang l.length l 0 = none := by rw [HE.out, hd, hen]
          have hv : readErr lang l = if 1500 < (done.filter isTok).length then (0, 2) else (0, 0) := by
            unfold readErr tokPcs; rw [if_neg (fun h => h hlang), if_neg h8, hbad, hp2, hp1]
          obtain ⟨A, cap, hvt⟩ := own_form hot
          subst hvt
          have Hd := Lib.hid hd; clear hd hpn hen hp2
          by_cases hcnt : 1500 < (done.filter isTok).length
          · rw [if_pos hcnt] at hv
            have Hv := Lib.hid hv; clear hv hp1
            go_wp2_with fail
            go_ret
            exact ReadPost.error (by rw [Hv.out]; exact ⟨rfl, rfl⟩) (by decide) hgrow (heap_alloc_new _ _) (hfr.alloc _)
          · rw [if_neg hcnt] at hv
            have ho : outPcs lang l = done := by simp [outPcs, hv, hp1]
            have Hv := Lib.hid hv; have Ho := Lib.hid ho; clear hv ho hp1
            go_wp2_with fail
            go_ret
            exact ⟨w.heap.size, _, vc, rfl, Nat.le_refl _, by rw [Hv.out]; exact hx, hfr, by unfold outToks; rw [Ho.out, List.length_map]; exact own_base hot (by omega), by unfold outComs; rw [Ho.out]; exact own_base hoc (by omega)⟩
        · obtain ⟨hlt, hcs, htl⟩ := ba_at Hs.out k hd
          obtain ⟨f, rfl⟩ : ∃ g, f = g + 1 := ⟨f - 1, by omega⟩
          cases hsp : isSpace c with
          | true =>
            have hpo : pieceOf lang (c :: t) = ⟨7, 1, 0⟩ := by rw [pieceOf, if_pos hsp]
            have Hstep : Hid (pieces lang l.length l 0 = (done ++ [Pc.mk 7 k (k + 1)]) ++ pieces lang f (l.drop (k + 1)) (k + 1)) := by
              unfold Hid
              rw [HP.out, hd, pieces, hpo, if_neg (by decide), List.append_assoc, ← htl]; rfl
            have HE2 : Hid (pieceErr lang l.length l 0 = pieceErr lang f (l.drop (k + 1)) (k + 1)) := by
              unfold Hid
              rw [HE.out, hd, pieceErr, hpo, if_neg (by decide), ← htl]; rfl
            have ht1 : (done ++ [Pc.mk 7 k (k + 1)]).filter isTok = done.filter isTok := by simp [isTok]
            have ht2 : (done ++ [Pc.mk 7 k (k + 1)]).filter isCom = done.filter isCom := by simp [isCom]
            have Ht1 := Lib.hid ht1; have Ht2 := Lib.hid ht2
            have hcc : c.toNat = 32 ∨ c.toNat = 9 ∨ c.toNat = 10 := of_decide_eq_true hsp
            have e32 : ((s[k].toNat : Int) == 32) = decide (c.toNat = 32) := by rw [hcs, Bool.eq_iff_iff]; simp; omega
            have e9 : ((s[k].toNat : Int) == 9) = decide (c.toNat = 9) := by rw [hcs, Bool.eq_iff_iff]; simp; omega
            have e10 : ((s[k].toNat : Int) == 10) = decide (c.toNat = 10) := by rw [hcs, Bool.eq_iff_iff]; simp; omega
            clear hd htl hpo ht1 ht2 hsp hcs
            rcases hcc with h | h | h
            all_goals
              simp only [h] at e32 e9 e10
              simp at e32 e9 e10
              clear h
              go_wp2_with fail
              go_roundw
              case rel => exact ⟨k + 1, f, done ++ [Pc.mk 7 k (k + 1)], vt, vc, by omega, by omega, by go_num, by simp; omega, hfr, hx, by rw [Ht1.out]; exact hot, by rw [Ht2.out]; exact hoc, Hstep, HE2⟩
              case measure => simp [intOf] <;> omega
          | false =>
            have hpa := piece_any lang hlang s l Hs.out k c t hd wr (by omega) hsp
            have hpl := pieceOf_len lang c t
            have hns := pieceOf_space lang c t
            have Hpa := Lib.hid hpa; clear hpa
            have hcc : ¬ (c.toNat = 32 ∨ c.toNat = 9 ∨ c.toNat = 10) := of_decide_eq_false hsp
            have e32 : ((s[k].toNat : Int) == 32) = false := by rw [hcs]; simp; omega
            have e9 : ((s[k].toNat : Int) == 9) = false := by rw [hcs]; simp; omega
            have e10 : ((s[k].toNat : Int) == 10) = false := by rw [hcs]; simp; omega
            clear hcc hcs htl
            generalize hP : pieceOf lang (c :: t) = P at *
            obtain ⟨qk, qn, qe⟩ := P
            have Hd := Lib.hid hd; have HP' := Lib.hid hP; have Hsp := Lib.hid hsp
            have Hpl := Lib.hid hpl; have Hns := Lib.hid hns
            clear hd hP hsp hpl hns
            go_wp2_with fail
            refine Hpa.out.mono ?_
            rintro e w1 ⟨⟨v, rfl, pk, pe, cm, rfl, hpv⟩, hf1⟩
            rw [Hd.out, HP'.out] at hpv ⊢
            simp only at hpv ⊢
            have hx1' := (hf1.2.block w.heap.size hxl).trans hx
            have Hpv := Lib.hid hpv; clear hpv
            by_cases he : qe = 0
            · have hbe : (qe != 0) = false := by simp [he]
              obtain ⟨hpe, hcm, hpk⟩ := Hpv.out he
              have hpl := Hpl.out he
              have hkp : k + qn ≤ s.size := by
                have h1 := Hlen.out
                have h2 := congrArg List.length Hd.out
                rw [List.length_drop, List.length_cons] at h2
                omega
              have hstep : pieces lang l.length l 0 = (done ++ [Pc.mk qk k (k + qn)]) ++ pieces lang f (l.drop (k + qn)) (k + qn) := by
                rw [HP.out, Hd.out, pieces, HP'.out, if_neg (by simpa using he), ← Hd.out, List.drop_drop, List.append_assoc]; rfl
              have herr : pieceErr lang l.length l 0 = pieceErr lang f (l.drop (k + qn)) (k + qn) := by
                rw [HE.out, Hd.out, pieceErr, HP'.out, if_neg (by simpa using he), ← Hd.out, List.drop_drop]
              have hq1 : k + 1 ≤ k + qn := by have := hpl.1; omega
              obtain ⟨E, hE⟩ : ∃ E, k + qn = E := ⟨_, rfl⟩
              rw [hE] at hstep herr hpe hkp hq1
              have Hstep := Lib.hid hstep; have Herr := Lib.hid herr
              clear hstep herr hpl hE
              subst hpe; subst hcm; subst he
              have hf1r : Fr w.heap.size w w1 := hfr.trans hf1
              have hot1 := own_below hot hf1.2
              have hoc1 := own_below hoc hf1.2
              have hxl1 := block_lt hx1'
              clear hx hx0 hx1 hot hoc hf1 Hpv
              by_cases hk8 : qk = 8
              · have hb8 : decide (qk = 8) = true := decide_eq_true hk8
                rw [hb8]
                have ht1 : (done ++ [Pc.mk qk k E]).filter isTok = done.filter isTok := by simp [isTok, hk8]
                have ht2 : (done ++ [Pc.mk qk k E]).filter isCom = done.filter isCom ++ [Pc.mk qk k E] := by simp [isCom, hk8]
                have Ht1 := Lib.hid ht1; have Ht2 := Lib.hid ht2; clear ht1 ht2 hk8 hpk hb8
                obtain ⟨i0, hi0, hz0, hz1, hz2⟩ := info_parts stretch_info
                go_wp2_with fail
                have hx2 : (w1.alloc (Obj.cells #[Value.int .i64 pk, Value.int .i64 (E : Int), Value.bool true, Value.int .i64 0] 79)).heap[w.heap.size]? = _ := (Below.heap_alloc _ _ _ hxl1).trans hx1'
                have hp2 := heap_alloc_new w1 (Obj.cells #[Value.int .i64 pk, Value.int .i64 (E : Int), Value.bool true, Value.int .i64 0] 79)
                have hf2 := hf1r.alloc (Obj.cells #[Value.int .i64 pk, Value.int .i64 (E : Int), Value.bool true, Value.int .i64 0] 79)
                have hot2 := hot1.alloc (Obj.cells #[Value.int .i64 pk, Value.int .i64 (E : Int), Value.bool true, Value.int .i64 0] 79)
                have hoc2 := hoc1.alloc (Obj.cells #[Value.int .i64 pk, Value.int .i64 (E : Int), Value.bool true, Value.int .i64 0] 79)
                generalize w1.alloc (Obj.cells #[Value.int .i64 pk, Value.int .i64 (E : Int), Value.bool true, Value.int .i64 0] 79) = w2 at *
                have x0 : w2.cell? ⟨w.heap.size, 0, none⟩ = some vt := by rw [Lib.cell_of_heap hx2]; rfl
                have x1 : w2.cell? ⟨w.heap.size, 1, none⟩ = some vc := by rw [Lib.cell_of_heap hx2]; rfl
                obtain ⟨p0, p1, p2, p3, -, -, -, -⟩ := piece_cells hp2
                have hxl2 := block_lt hx2
                have hpl2 := block_lt hp2
                have hnews : ∀ (j : Nat) (u : Value), [Value.int .i64 (k : Int), Value.int .i64 (E : Int)][j]? = some u → (w2.alloc (Obj.cells #[Value.int .i64 (k : Int), Value.int .i64 (E : Int)] 48)).drew.cell? (({ block := w2.heap.size, off := 0 } : Addr).add j) = some u := by
                  intro j u h
                  have := cells_new w2 #[Value.int .i64 (k : Int), Value.int .i64 (E : Int)] 48 j u h
                  simpa using this
                have hlt2 := fun g => own_lt hoc2 (g := g)
                have hfar : some w.heap.size ≠ vc.ownBlock := fun e => by have := (hlt2 _ e.symm).1; omega
                have hapt := own_apart hot2 hoc2 (by decide)
                have hfar2 : ∀ g, vt.ownBlock = some g → some g ≠ vc.ownBlock := fun g hg e => hapt g hg e.symm
                have hfarp : some w1.heap.size ≠ vc.ownBlock := fun e => by have := own_lt hoc1 e.symm; omega
                have Hnews := Lib.hid hnews; have Hoc2 := Lib.hid hoc2; have Hot2 := Lib.hid hot2; have Hfar2 := Lib.hid hfar2; have Hfar := Lib.hid hfar; have Hx2 := Lib.hid hx2; have Hp2 := Lib.hid hp2
                have Hlt2 := Lib.hid hlt2; have Hfarp := Lib.hid hfarp
                clear hnews hoc2 hot2 hfar2 hapt hfar hx2 hp2 hlt2 hoc1 hot1 hx1' hfarp
                go_region_law
                  (refine step_append_lies _ (by rfl) _ _ _ (by rfl) (w.heap.size + 1) 48 i0 _ 2 16 Tryz.underlying38 hi0 hz0 hz1 hz2 rfl (by omega) _ _ _ (by rfl) ((Hoc2.out.alloc _).drew)
                      ⟨w2.heap.size, 0, none⟩ 1 1 [.int .i64 k, .int .i64 E] (by rfl) (by rfl) Hnews.out (by simp [Value.oneCell'])
                      (by omega) (by unfold maxLen; omega) (by omega) (by simp; omega) (w2.heap.size + 1) (by simp) ?_; intro gg gcap w3 hown3 hg3 hat hlt3; have b3 := (hg3.block w.heap.size (by simp; omega) Hfar.out).trans ((Below.heap_alloc _ _ _ hxl2).trans Hx2.out); have y1 : w3.cell? ⟨w.heap.size, 1, none⟩ = some vc := (by rw [Lib.cell_of_heap b3]; rfl); have z1 : w3.frozen? ⟨w.heap.size, 1, none⟩ = false := Lib.frozen_of_heap b3 1)
                all_goals
                  have hfr3 : Fr w.heap.size w w3 := ((hf2.alloc _).drew).grown hg3 (fun g hg => by have := (Hlt2.out g hg).1; omega)
                  have bp := (hg3.block w1.heap.size (by simp; omega) Hfarp.out).trans ((Below.heap_alloc _ _ _ hpl2).trans Hp2.out)
                  have q1 : w3.cell? ⟨w1.heap.size, 1, none⟩ = some (.int .i64 (E : Int)) := (by rw [Lib.cell_of_heap bp]; rfl)
                  have hne1 : ¬ w1.heap.size = w.heap.size := by omega
                  have hne2 : ¬ w.heap.size = w1.heap.size := by omega
                  have hot3 := own_kept ((Hot2.out.alloc (Obj.cells #[Value.int .i64 (k : Int), Value.int .i64 (E : Int)] 48)).drew) (fun g hg => hg3.block g (by have := (own_lt Hot2.out hg).2; simp; omega) (Hfar2.out g hg))
                  have Hot3 := Lib.hid hot3; have Hown3 := Lib.hid hown3; have Hb3 := Lib.hid b3
                  clear hot3 hown3 b3 bp hg3
                  go_wp2_with fail
                  go_roundw
                  case rel => exact ⟨E, f, done ++ [Pc.mk qk k E], vt, _, by omega, by omega, by go_num, by simp; omega, hfr3.setCell (p := ⟨w.heap.size, 1, none⟩) (Nat.le_refl _) _, block_set Hb3.out 1 _, by rw [Ht1.out]; exact ownsRow_setCell_other Hot3.out (fun e => Nat.not_succ_le_self _ (own_lt Hot3.out e).1) _, by rw [Ht2.out]; exact ownsRow_setCell_other (com_row Hown3.out) (fun e => Nat.not_succ_le_self _ (own_lt Hown3.out e).1) _, Hstep, Herr⟩
                  case measure => simp [intOf] <;> omega
              · have hb8 : decide (qk = 8) = false := decide_eq_false hk8
                rw [hb8]
                have hpq := hpk hk8
                subst hpq
                have hk7 : pk < 7 := by
                  by_cases h : pk < 7
                  · exact h
                  · have := (Hns.out (by omega) hk8).1
                    rw [Hsp.out] at this; cases this
                have ht1 : (done ++ [Pc.mk pk k E]).filter isTok = done.filter isTok ++ [Pc.mk pk k E] := by simp [isTok, hk7]
                have ht2 : (done ++ [Pc.mk pk k E]).filter isCom = done.filter isCom := by simp [isCom, hk8]
                have hex : s.extract k E = ⟨((l.drop k).take (E - k)).toArray⟩ := by rw [Lib.extract_eq, Hs.out]
                have Hex := Lib.hid hex
                have b1 : (0 : Int) ≤ k := by omega
                have b2 : (k : Int) ≤ E := by omega
                have b3' : (E : Int) ≤ s.size := by omega
                have sl1 := fun W => run_slice_string (P := Tryz.prog) (w := W) 9 s .i64 .i64 (k : Int) (E : Int) Tryz.underlying9 (by omega) (by omega) (by omega)
                have Ht1 := Lib.hid ht1; have Ht2 := Lib.hid ht2; clear ht1 ht2 hk8 hpk hb8 hex
                obtain ⟨i0, hi0, hz0, hz1, hz2⟩ := info_parts token_info
                go_wp2_with fail
                have hx2 : (w1.alloc (Obj.cells #[Value.int .i64 pk, Value.int .i64 (E : Int), Value.bool false, Value.int .i64 0] 79)).heap[w.heap.size]? = _ := (Below.heap_alloc _ _ _ hxl1).trans hx1'
                have hp2 := heap_alloc_new w1 (Obj.cells #[Value.int .i64 pk, Value.int .i64 (E : Int), Value.bool false, Value.int .i64 0] 79)
                have hf2 := hf1r.alloc (Obj.cells #[Value.int .i64 pk, Value.int .i64 (E : Int), Value.bool false, Value.int .i64 0] 79)
                have hoc2 := hoc1.alloc (Obj.cells #[Value.int .i64 pk, Value.int .i64 (E : Int), Value.bool false, Value.int .i64 0] 79)
                have hot2 := hot1.alloc (Obj.cells #[Value.int .i64 pk, Value.int .i64 (E : Int), Value.bool false, Value.int .i64 0] 79)
                generalize w1.alloc (Obj.cells #[Value.int .i64 pk, Value.int .i64 (E : Int), Value.bool false, Value.int .i64 0] 79) = w2 at *
                have x0 : w2.cell? ⟨w.heap.size, 0, none⟩ = some vt := by rw [Lib.cell_of_heap hx2]; rfl
                have x1 : w2.cell? ⟨w.heap.size, 1, none⟩ = some vc := by rw [Lib.cell_of_heap hx2]; rfl
                obtain ⟨p0, p1, p2, p3, -, -, -, -⟩ := piece_cells hp2
                have hxl2 := block_lt hx2
                have hpl2 := block_lt hp2
                have hnews : ∀ (j : Nat) (u : Value), [Value.int .i64 pk, Value.string (s.extract k E), Value.int .i64 (k : Int)][j]? = some u → (w2.alloc (Obj.cells #[Value.int .i64 pk, Value.string (s.extract k E), Value.int .i64 (k : Int)] 43)).drew.cell? (({ block := w2.heap.size, off := 0 } : Addr).add j) = some u := by
                  intro j u h
                  have := cells_new w2 #[Value.int .i64 pk, Value.string (s.extract k E), Value.int .i64 (k : Int)] 43 j u h
                  simpa using this
                have hlt2 := fun g => own_lt hot2 (g := g)
                have hfar : some w.heap.size ≠ vt.ownBlock := fun e => by have := (hlt2 _ e.symm).1; omega
                have hapt := own_apart hoc2 hot2 (by decide)
                have hfar2 : ∀ g, vc.ownBlock = some g → some g ≠ vt.ownBlock := fun g hg e => hapt g hg e.symm
                have hfarp : some w1.heap.size ≠ vt.ownBlock := fun e => by have := own_lt hot1 e.symm; omega
                have Hnews := Lib.hid hnews; have Hot2 := Lib.hid hot2; have Hoc2 := Lib.hid hoc2; have Hfar2 := Lib.hid hfar2; have Hfar := Lib.hid hfar; have Hx2 := Lib.hid hx2; have Hp2 := Lib.hid hp2
                have Hlt2 := Lib.hid hlt2; have Hfarp := Lib.hid hfarp
                clear hnews hot2 hoc2 hfar2 hapt hfar hx2 hp2 hlt2 hot1 hoc1 hx1' hfarp
                go_region_law
                  (refine step_append_lies _ (by rfl) _ _ _ (by rfl) (w.heap.size + 1) 43 i0 _ 3 32 Tryz.underlying33 hi0 hz0 hz1 hz2 rfl (by omega) _ _ _ (by rfl) ((Hot2.out.alloc _).drew)
                      ⟨w2.heap.size, 0, none⟩ 1 1 [.int .i64 pk, .string (s.extract k E), .int .i64 k] (by rfl) (by rfl) Hnews.out (by simp [Value.oneCell'])
                      (by omega) (by unfold maxLen; omega) (by omega) (by simp; omega) (w2.heap.size + 1) (by simp) ?_; intro gg gcap w3 hown3 hg3 hat hlt3; have b3 := (hg3.block w.heap.size (by simp; omega) Hfar.out).trans ((Below.heap_alloc _ _ _ hxl2).trans Hx2.out); have y1 : w3.cell? ⟨w.heap.size, 0, none⟩ = some vt := (by rw [Lib.cell_of_heap b3]; rfl); have z1 : w3.frozen? ⟨w.heap.size, 0, none⟩ = false := Lib.frozen_of_heap b3 0)
                all_goals
                  have hfr3 : Fr w.heap.size w w3 := ((hf2.alloc _).drew).grown hg3 (fun g hg => by have := (Hlt2.out g hg).1; omega)
                  have bp := (hg3.block w1.heap.size (by simp; omega) Hfarp.out).trans ((Below.heap_alloc _ _ _ hpl2).trans Hp2.out)
                  have q1 : w3.cell? ⟨w1.heap.size, 1, none⟩ = some (.int .i64 (E : Int)) := (by rw [Lib.cell_of_heap bp]; rfl)
                  have hne1 : ¬ w1.heap.size = w.heap.size := by omega
                  have hne2 : ¬ w.heap.size = w1.heap.size := by omega
                  have hoc3 := own_kept ((Hoc2.out.alloc (Obj.cells #[Value.int .i64 pk, Value.string (s.extract k E), Value.int .i64 (k : Int)] 43)).drew) (fun g hg => hg3.block g (by have := (own_lt Hoc2.out hg).2; simp; omega) (Hfar2.out g hg))
                  have Hoc3 := Lib.hid hoc3; have Hown3 := Lib.hid hown3; have Hb3 := Lib.hid b3
                  clear hoc3 hown3 b3 bp hg3
                  go_wp2_with fail
                  go_roundw
                  case rel => exact ⟨E, f, done ++ [Pc.mk pk k E], _, vc, by omega, by omega, by go_num, by simp; omega, hfr3.setCell (p := ⟨w.heap.size, 0, none⟩) (Nat.le_refl _) _, block_set Hb3.out 0 _, by rw [Ht1.out]; exact ownsRow_setCell_other (tok_row Hex.out Hown3.out) (fun e => Nat.not_succ_le_self _ (own_lt Hown3.out e).1) _, by rw [Ht2.out]; exact ownsRow_setCell_other Hoc3.out (fun e => Nat.not_succ_le_self _ (own_lt Hoc3.out e).1) _, Hstep, Herr⟩
                  case measure => simp [intOf] <;> omega
            · have hbe : (qe != 0) = true := by simp [he]
              have hv : readErr lang l = (k, qe) := by
                unfold readErr
                rw [if_neg (fun h => h hlang), if_neg h8, hbad, HE.out, Hd.out, pieceErr, HP'.out, if_pos (by simpa using he)]
              have Hv := Lib.hid hv; have He := Lib.hid he; clear hv he
              have hg1 := hf1.le
              go_wp2_with fail
              go_ret
              exact ReadPost.error (a := (k : Int)) (e := qe) (by rw [Hv.out]; exact ⟨rfl, rfl⟩) He.out (by omega) (heap2 _ _ _) (((hfr.trans hf1).alloc _).alloc _)
    · have hb1 : ((checkText l).2 != 0) = true := by simpa using h1
      have hv : ((readErr lang l).1 : Int) = (checkText l).1 ∧ (readErr lang l).2 = (checkText l).2 := by
        by_cases h8 : 8000 < l.length
        · have e1 : readErr lang l = (0, 2) := by unfold readErr; rw [if_neg (fun h => h hlang), if_pos h8]
          have e2 : checkText l = (0, 2) := by unfold checkText; rw [if_pos h8]
          rw [e1, e2]; exact ⟨rfl, rfl⟩
        · cases hb : badAt l with
          | none => exfalso; apply h1; unfold checkText; rw [if_neg h8, hb]
          | some i =>
            have e1 : readErr lang l = (i, 5) := by unfold readErr; rw [if_neg (fun h => h hlang), if_neg h8, hb]
            have e2 : checkText l = ((i : Int), (5 : Int)) := by unfold checkText; rw [if_neg h8, hb]
            rw [e1, e2]; exact ⟨rfl, rfl⟩
      have Hct := Lib.hid hct; have Hv := Lib.hid hv; have H1 := Lib.hid h1
      clear hs hct hlen hv h1
      go_enter Tryz.func19, Tryz.ntmps19
      go_wp2_with (first | (go_at_call 25; refine (Hil.out _).mono ?_; rintro e w' ⟨rfl, rfl⟩) | (go_at_call 15; refine (Hct.out _).mono ?_; rintro e w' ⟨rfl, rfl⟩))
      go_ret
      exact ReadPost.error Hv.out H1.out (Nat.le_refl _) (heap_alloc_new _ _) (hf.alloc _)
  · have Hil : Hid (∀ w, Calls Tryz.prog 25 #[.int .i64 lang] w fun e w' => e = .returned (.bool false) ∧ w = w') := fun w => by have := isLang_any lang w; rw [decide_eq_false hlang] at this; exact this
    have hv : ((readErr lang l).1 : Int) = 0 ∧ (readErr lang l).2 = 4 := by unfold readErr; rw [if_pos hlang]; exact ⟨rfl, rfl⟩
    have Hv := Lib.hid hv
    clear hs hct hlen hv hlang
    go_enter Tryz.func19, Tryz.ntmps19
    go_wp2_with (first | (go_at_call 25; refine (Hil.out _).mono ?_; rintro e w' ⟨rfl, rfl⟩))
    go_ret
    exact ReadPost.error Hv.out (by decide) (Nat.le_refl _) (heap_alloc_new _ _) (hf.alloc _)
end Go.Proofs.YtknbmnckegonlaaGreatDoor
