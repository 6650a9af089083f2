/- The contract on the pieces of a text. -/
import Derived.Test.YtfmpcchlpplanaaGreatDoorLens
import Derived.Test.YtfmpcchlpplanaaGreatDoorText
import Derived.OwnWalk
namespace Go.Proofs.YtfmpcchlpplanaaGreatDoor
open Go.RowKit

def pcCells (l : List Pc) : List Value := l.flatMap fun p => [.int .i64 p.kind, .int .i64 (p.fr : Int), .int .i64 (p.to : Int)]
def outPcs (lang : Int) (l : List UInt8) : List Pc := if (readErr lang l).2 = 0 then pieces lang l.length l 0 else []
def PiecesPost (lang : Int) (l : List UInt8) (w : World) (e : Ending) (w' : World) : Prop :=
  ∃ v, e = .returned (.tuple #[v, .int .i64 ((readErr lang l).1 : Int), .int .i64 (readErr lang l).2]) ∧ Fr w.heap.size w w' ∧ w'.ownsRow w.heap.size 58 3 v (outPcs lang l).length (pcCells (outPcs lang l))
theorem piece_info : (Tryz.prog.info? 58).map (fun i => (i.zero, i.size, i.bytes)) = some (some (.agg #[.int .i64 0, .int .i64 0, .int .i64 0]), 3, 24) := by kernel_rfl

set_option maxRecDepth 100000 in
theorem piecesOf_any (lang : Int) (s : ByteArray) (l : List UInt8) (hs : s.data.toList = l) (w : World) (hm : s.size ≤ maxLen) (hg : Hid (Glob w)) :
    Calls Tryz.prog 31 #[.int .i64 lang, .string s] w (PiecesPost lang l w) := by
  have hf := Fr.self w
  have hct := fun W => checkText_any s l hs W hm
  have hlen := ba_len hs
  by_cases hlang : lang = 0 ∨ lang = 1
  · by_cases h8 : 8000 < l.length
    · have hv : readErr lang l = (0, 2) := by unfold readErr; rw [if_neg (fun h => h hlang), if_pos h8]
      have hc : checkText l = (0, 2) := by unfold checkText; rw [if_pos h8]
      rw [hc] at hct
      have hlg := decide_eq_true hlang
      clear hc
      have ho : outPcs lang l = [] := by simp [outPcs, hv]
      have Hv := Lib.hid hv; have Ho := Lib.hid ho; have Hct := Lib.hid hct; have Hlg := Lib.hid hlg
      clear hv ho hct hlg hs hlen
      go_enter Tryz.func31, Tryz.ntmps31
      go_wp2_with (first | (go_at_call 17; refine (isLanguage_any _ _).mono ?_; rintro e w' ⟨rfl, rfl⟩; rw [Hlg.out]) | (go_at_call 47; refine (Hct.out _).mono ?_; rintro e w' ⟨rfl, rfl⟩))
      go_ret3
      exact ⟨.slice none 0 0, by rw [Hv.out]; rfl, hf, by rw [Ho.out]; exact ⟨rfl, .inl ⟨rfl, rfl⟩⟩⟩
    · cases hbad : badAt l with
      | some i =>
        have hil := badAt_lt _ _ hbad
        have hv : readErr lang l = (i, 5) := by unfold readErr; rw [if_neg (fun h => h hlang), if_neg h8, hbad]
        have hc : checkText l = ((i : Int), (5 : Int)) := by unfold checkText; rw [if_neg h8, hbad]
        rw [hc] at hct
        have hlg := decide_eq_true hlang
        clear hc hbad
        have ho : outPcs lang l = [] := by simp [outPcs, hv]
        have Hv := Lib.hid hv; have Ho := Lib.hid ho; have Hct := Lib.hid hct; have Hlg := Lib.hid hlg
        clear hv ho hct hlg hs hlen
        go_enter Tryz.func31, Tryz.ntmps31
        go_wp2_with (first | (go_at_call 17; refine (isLanguage_any _ _).mono ?_; rintro e w' ⟨rfl, rfl⟩; rw [Hlg.out]) | (go_at_call 47; refine (Hct.out _).mono ?_; rintro e w' ⟨rfl, rfl⟩))
        go_ret3
        exact ⟨.slice none 0 0, by rw [Hv.out]; rfl, hf, by rw [Ho.out]; exact ⟨rfl, .inl ⟨rfl, rfl⟩⟩⟩
      | none =>
        have hc : checkText l = ((1 : Int) + ((l.count 10 : Nat) : Int), (0 : Int)) := by unfold checkText; rw [if_neg h8, hbad]
        rw [hc] at hct
        have hlg := decide_eq_true hlang
        have Hs := Lib.hid hs; have Hct := Lib.hid hct; have Hlen := Lib.hid hlen; have Hlg := Lib.hid hlg
        clear hs hct hc hlen hlg
        go_enter Tryz.func31, Tryz.ntmps31
        go_wp2_with (first | (go_at_call 17; refine (isLanguage_any _ _).mono ?_; rintro e w' ⟨rfl, rfl⟩; rw [Hlg.out]) | (go_at_call 47; refine (Hct.out _).mono ?_; rintro e w' ⟨rfl, rfl⟩))
        go_loopw [9, 10, 11] (fun v n i wr => ∃ (k f : Nat) (done : List Pc), k ≤ s.size ∧ s.size ≤ f + k ∧ i = .int .i64 k ∧ n = .int .i64 ((done.filter isTok).length : Nat) ∧ done.length ≤ k ∧ Fr w.heap.size w wr ∧ wr.ownsRow w.heap.size 58 3 v done.length (pcCells done) ∧ Hid (pieces lang l.length l 0 = done ++ pieces lang f (l.drop k) k) ∧ Hid (pieceErr lang l.length l 0 = pieceErr lang f (l.drop k) k)) (fun _ _ i _ => s.size - (intOf i).toNat)
        case atStart => exact ⟨0, l.length, [], by omega, by have := Hlen.out; omega, rfl, rfl, by simp, hf, ⟨rfl, .inl ⟨rfl, rfl⟩⟩, rfl, rfl⟩
        case round =>
          obtain ⟨k, f, done, hk, hkf, rfl, rfl, hdk, hfr, hown, HP, HE⟩ := hrel
          rcases hd : l.drop k with _ | ⟨c, t⟩
          · have hge := ba_end Hs.out k hd
            have hpn : pieces lang f [] k = [] := by cases f <;> rfl
            have hen : pieceErr lang f [] k = none := by cases f <;> rfl
            have hp1 : pieces lang l.length l 0 = done := by rw [HP.out, hd, hpn, List.append_nil]
            have hp2 : pieceErr lang l.length l 0 = none := by rw [HE.out, hd, hen]
            have hv : readErr lang l = if 1500 < (done.filter isTok).length then (0, 2) else (0, 0) := by
              unfold readErr tokPcs; rw [if_neg (fun h => h hlang), if_neg h8, hbad, hp2, hp1]
            have hfl : (done.filter isTok).length ≤ 8000 := by
              have := List.length_filter_le isTok done
              have := Hlen.out
              omega
            have Hd := Lib.hid hd; clear hd hpn hen hp2
            by_cases hcnt : 1500 < (done.filter isTok).length
            · rw [if_pos hcnt] at hv
              have ho : outPcs lang l = [] := by simp [outPcs, hv]
              have Hv := Lib.hid hv; have Ho := Lib.hid ho; clear hv ho hp1
              go_wp2_with fail
              go_ret3
              exact ⟨.slice none 0 0, by rw [Hv.out]; rfl, hfr, by rw [Ho.out]; exact ⟨rfl, .inl ⟨rfl, rfl⟩⟩⟩
            · rw [if_neg hcnt] at hv
              have ho : outPcs lang l = done := by simp [outPcs, hv, hp1]
              have Hv := Lib.hid hv; have Ho := Lib.hid ho; clear hv ho hp1
              go_wp2_with fail
              go_ret3
              exact ⟨_, by rw [Hv.out]; rfl, hfr, by rw [Ho.out]; exact hown⟩
          · obtain ⟨hlt, -, -⟩ := ba_at Hs.out k hd
            obtain ⟨f, rfl⟩ : ∃ g, f = g + 1 := ⟨f - 1, by omega⟩
            have hx : (s.extract k s.size).size ≤ 10000 := by rw [ba_size, ba_drop Hs.out, List.length_drop]; omega
            have hgr := Glob.fr hg hfr
            have hpc := pieceOf_any lang hlang (s.extract k s.size) c t ((ba_drop Hs.out k).trans hd) wr hx hgr
            have hpl := pieceOf_len lang c t
            generalize hP : pieceOf lang (c :: t) = P at *
            obtain ⟨pk, pn, pe⟩ := P
            simp only [p1Value] at hpc hpl
            have Hd := Lib.hid hd; have HP' := Lib.hid hP; have Hpc := Lib.hid hpc
            clear hd hP hpc
            by_cases he : pe = 0
            · have hpl := hpl he
              have hbe : (pe != 0) = false := by simp [he]
              have Hpe := Lib.hid he; clear he
              have hfl : (done.filter isTok).length ≤ 8000 := by
                have := List.length_filter_le isTok done
                have := Hlen.out
                omega
              have hkp : k + pn ≤ 8000 ∧ k + pn ≤ s.size := by
                have h1 := Hlen.out
                have h2 := congrArg List.length Hd.out
                rw [List.length_drop, List.length_cons] at h2
                omega
              have hstep : pieces lang l.length l 0 = (done ++ [Pc.mk pk k (k + pn)]) ++ pieces lang f (l.drop (k + pn)) (k + pn) := by
                rw [HP.out, Hd.out, pieces, HP'.out, if_neg (by simpa using Hpe.out), ← Hd.out, List.drop_drop, List.append_assoc]; rfl
              obtain ⟨i0, hi0, hz0, hz1, hz2⟩ := info_parts piece_info
              have Hstep := Lib.hid hstep; clear hstep
              by_cases ht : pk < 7
              · have Hcnt : Hid (((done ++ [Pc.mk pk k (k + pn)]).filter isTok).length = (done.filter isTok).length + 1) := by unfold Hid; simp [isTok, ht]
                go_wp2_with (go_at_call 48; refine Hpc.out.mono ?_; rintro e w1 ⟨rfl, hf1⟩)
                refine (isToken_any _ _ _ _).mono ?_
                rintro e w2 ⟨rfl, hf2⟩
                have hsz1 := hf1.2.size
                have hsz2 : w1.heap.size + 1 ≤ w2.heap.size := by have := hf2.2.size; simpa using this
                have hcell : ∀ o, w2.cell? ⟨w1.heap.size, o, none⟩ = (#[Value.int .i64 pk, .int .i64 k, .int .i64 (k + pn)] : Array Value)[o]? := fun o => (hf2.cell (p := ⟨w1.heap.size, o, none⟩) (by simp)).trans (cell_new _ _ _ _)
                have c0 := hcell 0
                have c1 := hcell 1
                have c2 := hcell 2
                simp at c0 c1 c2
                have hf12 : Fr wr.heap.size wr w2 := hf1.trans (Fr.trans (Fr.alloc (Fr.self w1) _) hf2)
                have hown2 := own_below hown hf12.2
                have hlt2 := fun g => own_lt hown (g := g)
                clear hcell
                go_wp2_with (at_builtin; refine wpList_append_own _ rfl _ _ 54 rfl w.heap.size 58 i0 _ 3 24 Tryz.underlying54 hi0 hz0 hz1 hz2 rfl (by decide) _ _ _ rfl (hown2.alloc _) ⟨w2.heap.size, 0, none⟩ 1 1 [.int .i64 pk, .int .i64 k, .int .i64 (k + pn)] rfl rfl ?d1 ?d2 ?d3 ?d4 ?d5 ?_)
                case d1 => exact cells_new _ _ _
                case d2 => intro u hu; simp at hu; rcases hu with rfl | rfl | rfl <;> rfl
                case d3 => unfold maxLen; omega
                case d4 => omega
                case d5 => have := hfr.le; simp; omega
                intro v' w3 hown3 hg3 _
                have hfr3 : Fr w.heap.size w w3 := ((hfr.trans hf12).alloc _).grown hg3 (fun g hg => (hlt2 g hg).1)
                have hb3 : w3.heap[w1.heap.size]? = w2.heap[w1.heap.size]? := (hg3.block _ (by simp; omega) (fun e => by have := (hlt2 _ e.symm).2; omega)).trans (Below.heap_alloc _ _ _ (by omega))
                have c3 : w3.cell? ⟨w1.heap.size, 2, none⟩ = some (.int .i64 (k + pn)) := (World.cell?_of_block hb3).trans c2
                have Hown3 := Lib.hid hown3
                clear hb3 hg3 hlt2 hown3 hown2 hf12 hf2 hf1 c0 c1 c2
                go_wp2_with fail
                go_roundw
                case rel =>
                  refine ⟨k + pn, f, done ++ [Pc.mk pk k (k + pn)], by omega, by omega, by go_num, by rw [Hcnt.out]; go_num, by simp; omega, hfr3, ?_, Hstep.out, ?_⟩
                  · have e : ((k + pn : Nat) : Int) = k + pn := by omega
                    have := Hown3.out
                    rw [List.length_append, pcCells, List.flatMap_append]
                    simp only [List.flatMap_cons, List.flatMap_nil, List.append_nil, e]
                    exact this
                  · unfold Hid
                    rw [HE.out, Hd.out, pieceErr, HP'.out, if_neg (by simpa using Hpe.out), ← Hd.out, List.drop_drop]
                case measure => simp [intOf] <;> omega
              · have Hcnt : Hid (((done ++ [Pc.mk pk k (k + pn)]).filter isTok).length = (done.filter isTok).length) := by unfold Hid; simp [isTok, ht]
                go_wp2_with (go_at_call 48; refine Hpc.out.mono ?_; rintro e w1 ⟨rfl, hf1⟩)
                refine (isToken_any _ _ _ _).mono ?_
                rintro e w2 ⟨rfl, hf2⟩
                have hsz1 := hf1.2.size
                have hsz2 : w1.heap.size + 1 ≤ w2.heap.size := by have := hf2.2.size; simpa using this
                have hcell : ∀ o, w2.cell? ⟨w1.heap.size, o, none⟩ = (#[Value.int .i64 pk, .int .i64 k, .int .i64 (k + pn)] : Array Value)[o]? := fun o => (hf2.cell (p := ⟨w1.heap.size, o, none⟩) (by simp)).trans (cell_new _ _ _ _)
                have c0 := hcell 0
                have c1 := hcell 1
                have c2 := hcell 2
                simp at c0 c1 c2
                have hf12 : Fr wr.heap.size wr w2 := hf1.trans (Fr.trans (Fr.alloc (Fr.self w1) _) hf2)
                have hown2 := own_below hown hf12.2
                have hlt2 := fun g => own_lt hown (g := g)
                clear hcell
                go_wp2_with (at_builtin; refine wpList_append_own _ rfl _ _ 54 rfl w.heap.size 58 i0 _ 3 24 Tryz.underlying54 hi0 hz0 hz1 hz2 rfl (by decide) _ _ _ rfl (hown2.alloc _) ⟨w2.heap.size, 0, none⟩ 1 1 [.int .i64 pk, .int .i64 k, .int .i64 (k + pn)] rfl rfl ?d1 ?d2 ?d3 ?d4 ?d5 ?_)
                case d1 => exact cells_new _ _ _
                case d2 => intro u hu; simp at hu; rcases hu with rfl | rfl | rfl <;> rfl
                case d3 => unfold maxLen; omega
                case d4 => omega
                case d5 => have := hfr.le; simp; omega
                intro v' w3 hown3 hg3 _
                have hfr3 : Fr w.heap.size w w3 := ((hfr.trans hf12).alloc _).grown hg3 (fun g hg => (hlt2 g hg).1)
                have hb3 : w3.heap[w1.heap.size]? = w2.heap[w1.heap.size]? := (hg3.block _ (by simp; omega) (fun e => by have := (hlt2 _ e.symm).2; omega)).trans (Below.heap_alloc _ _ _ (by omega))
                have c3 : w3.cell? ⟨w1.heap.size, 2, none⟩ = some (.int .i64 (k + pn)) := (World.cell?_of_block hb3).trans c2
                have Hown3 := Lib.hid hown3
                clear hb3 hg3 hlt2 hown3 hown2 hf12 hf2 hf1 c0 c1 c2
                go_wp2_with fail
                go_roundw
                case rel =>
                  refine ⟨k + pn, f, done ++ [Pc.mk pk k (k + pn)], by omega, by omega, by go_num, by rw [Hcnt.out], by simp; omega, hfr3, ?_, Hstep.out, ?_⟩
                  · have e : ((k + pn : Nat) : Int) = k + pn := by omega
                    have := Hown3.out
                    rw [List.length_append, pcCells, List.flatMap_append]
                    simp only [List.flatMap_cons, List.flatMap_nil, List.append_nil, e]
                    exact this
                  · unfold Hid
                    rw [HE.out, Hd.out, pieceErr, HP'.out, if_neg (by simpa using Hpe.out), ← Hd.out, List.drop_drop]
                case measure => simp [intOf] <;> omega
            · have hbe : (pe != 0) = true := by simp [he]
              have hv : readErr lang l = (k, pe) := by
                unfold readErr
                rw [if_neg (fun h => h hlang), if_neg h8, hbad, HE.out, Hd.out, pieceErr, HP'.out, if_pos (by simpa using he)]
              have ho : outPcs lang l = [] := by simp [outPcs, hv, he]
              have Hv := Lib.hid hv; have Ho := Lib.hid ho; clear hv ho he hpl
              go_wp2_with (go_at_call 48; refine Hpc.out.mono ?_; rintro e w1 ⟨rfl, hf1⟩)
              go_ret3
              exact ⟨.slice none 0 0, by rw [Hv.out]; rfl, hfr.trans hf1, by rw [Ho.out]; exact ⟨rfl, .inl ⟨rfl, rfl⟩⟩⟩
  · have hv : readErr lang l = (0, 4) := by unfold readErr; rw [if_pos hlang]
    have hlg := decide_eq_false hlang
    have ho : outPcs lang l = [] := by simp [outPcs, hv]
    have Hv := Lib.hid hv; have Ho := Lib.hid ho; have Hct := Lib.hid hct; have Hlg := Lib.hid hlg
    clear hv ho hct hlg hs hlen
    go_enter Tryz.func31, Tryz.ntmps31
    go_wp2_with (first | (go_at_call 17; refine (isLanguage_any _ _).mono ?_; rintro e w' ⟨rfl, rfl⟩; rw [Hlg.out]) | (go_at_call 47; refine (Hct.out _).mono ?_; rintro e w' ⟨rfl, rfl⟩))
    go_ret3
    exact ⟨.slice none 0 0, by rw [Hv.out]; rfl, hf, by rw [Ho.out]; exact ⟨rfl, .inl ⟨rfl, rfl⟩⟩⟩
end Go.Proofs.YtfmpcchlpplanaaGreatDoor
