/- The contract on the comments of a text. -/
import Derived.Test.YtfmpcchlpplanaaGreatDoorToks
namespace Go.Proofs.YtfmpcchlpplanaaGreatDoor
open Go.RowKit

def isCom (p : Pc) : Bool := decide (p.kind = 8)
def comCells (l : List Pc) : List Value := l.flatMap fun p => [.int .i64 (p.fr : Int), .int .i64 (p.to : Int)]
def outComs (lang : Int) (l : List UInt8) : List Pc := (outPcs lang l).filter isCom
def CommentsPost (lang : Int) (l : List UInt8) (w : World) (e : Ending) (w' : World) : Prop :=
  ∃ v, e = .returned (.tuple #[v, .int .i64 ((readErr lang l).1 : Int), .int .i64 (readErr lang l).2]) ∧ Fr w.heap.size w w' ∧ w'.ownsRow w.heap.size 60 2 v (outComs lang l).length (comCells (outComs lang l))
theorem stretch_info : (Tryz.prog.info? 60).map (fun i => (i.zero, i.size, i.bytes)) = some (some (.agg #[.int .i64 0, .int .i64 0]), 2, 16) := by kernel_rfl
set_option maxRecDepth 100000 in
theorem commentsOf_any (lang : Int) (s : ByteArray) (l : List UInt8) (hs : s.data.toList = l) (w : World) (hm : s.size ≤ maxLen) (hg : Hid (Glob w)) :
    Calls Tryz.prog 15 #[.int .i64 lang, .string s] w (CommentsPost lang l w) := by
  have hpo := piecesOf_any lang s l hs w hm hg
  have Hs := Lib.hid hs; have Hpo := Lib.hid hpo; clear hs hpo
  go_enter Tryz.func15, Tryz.ntmps15
  go_wp2_with fail
  refine Hpo.out.mono ?_
  rintro e w1 ⟨v, rfl, hf1, hown1⟩
  by_cases he : (readErr lang l).2 = 0
  · obtain ⟨hlang, h8, -, -, -, hre⟩ := readErr_ok he
    have hin := fun p h => outPcs_in (lang := lang) (l := l) (p := p) h
    have hln := outPcs_length lang l
    have Hre := Lib.hid hre; clear hre he
    rw [Hre.out]
    rcases own_cases hown1 with ⟨rfl, hn, -⟩ | ⟨g, cap, rfl, hgb, hgl, hnc, hcells⟩
    · have hnil : outPcs lang l = [] := List.eq_nil_of_length_eq_zero hn
      have ho : outComs lang l = [] := by unfold outComs; rw [hnil]; rfl
      have Ho := Lib.hid ho; clear ho hnil hn hin hln hown1
      go_wp2_with fail
      refine wp_loop_rounds 1 ?_
      rw [rounds_succ]
      go_wp2_with fail
      go_ret3
      exact ⟨.slice none 0 0, by rw [Hre.out]; rfl, hf1, by rw [Ho.out]; exact ⟨rfl, .inl ⟨rfl, rfl⟩⟩⟩
    · generalize hps : outPcs lang l = ps at *
      have ho : outComs lang l = (ps.filter isCom) := by unfold outComs; rw [hps]
      have hle := ba_len Hs.out
      have hlp : ps.length ≤ 8000 := by omega
      have Ho := Lib.hid ho; have Hcells := Lib.hid hcells; have Hin := Lib.hid hin
      clear ho hps hcells hin hown1
      go_wp2_with fail
      go_loopw [10, 26] (fun v i wr => ∃ k : Nat, k ≤ ps.length ∧ i = .int .i64 k ∧ Fr w1.heap.size w1 wr ∧ wr.ownsRow w1.heap.size 60 2 v ((ps.take k).filter isCom).length (comCells (((ps.take k).filter isCom)))) (fun _ i _ => ps.length - (intOf i).toNat)
      case atStart => exact ⟨0, by omega, rfl, Fr.self w1, ⟨rfl, .inl ⟨rfl, rfl⟩⟩⟩
      case round =>
        obtain ⟨k, hk, rfl, hfr, hown⟩ := hrel
        have hgrow := hfr.le
        by_cases hkl : k < ps.length
        · obtain ⟨⟨pk, pa, pb⟩, hp⟩ : ∃ p, ps[k]? = some p := ⟨_, List.getElem?_eq_getElem hkl⟩
          have hpc := pcCells_get ps k _ hp
          have hpi := Hin.out _ (List.mem_of_getElem? hp)
          have g0 : wr.cell? ⟨g, k * 3, none⟩ = some (.int .i64 pk) := (hfr.cell (p := ⟨g, _, none⟩) hgl).trans (Hcells.out _ _ hpc.1)
          have g1 : wr.cell? ⟨g, k * 3 + 1, none⟩ = some (.int .i64 pa) := (hfr.cell (p := ⟨g, _, none⟩) hgl).trans (Hcells.out _ _ hpc.2.1)
          have g2 : wr.cell? ⟨g, k * 3 + 2, none⟩ = some (.int .i64 pb) := (hfr.cell (p := ⟨g, _, none⟩) hgl).trans (Hcells.out _ _ hpc.2.2)
          have hpa : pa ≤ pb := hpi.1
          have hpb : pb ≤ s.size := by have := hpi.2; simp at this; omega
          have hsz8 : s.size ≤ 8000 := by omega
          have Hp := Lib.hid hp
          clear hpc hpi hp
          have hfl : ((ps.take k).filter isCom).length ≤ 8000 := by
            have := List.length_filter_le isCom (ps.take k)
            rw [List.length_take] at this
            omega
          obtain ⟨i0, hi0, hz0, hz1, hz2⟩ := info_parts stretch_info
          have hlt2 := fun g => own_lt hown (g := g)
          by_cases ht : pk = 8
          · have htk : (ps.take (k + 1)).filter isCom = (ps.take k).filter isCom ++ [⟨pk, pa, pb⟩] := by
              rw [List.take_add_one, Hp.out, List.filter_append]; simp [isCom, ht]
            have Htk := Lib.hid htk; clear htk
            have hb8 : (pk == 8) = true := by simp [ht]
            clear ht
            have hbl : ∀ j u, [Value.int .i64 (pa : Int), .int .i64 (pb : Int)][j]? = some u → (((wr.alloc (.cells #[.int .i64 pk, .int .i64 pa, .int .i64 pb] 58)).alloc (.cells #[.int .i64 pa, .int .i64 pb] 60)).cell? (Addr.add ⟨wr.heap.size + 1, 0, none⟩ j) = some u) := by
              intro j u h
              have := cells_new (wr.alloc (.cells #[.int .i64 pk, .int .i64 pa, .int .i64 pb] 58)) #[.int .i64 pa, .int .i64 pb] 60 j u h
              simpa using this
            have Hbl := Lib.hid hbl; clear hbl
            go_wp2_with (at_builtin; refine wpList_append_own _ rfl _ _ 37 rfl w1.heap.size 60 i0 _ 2 16 Tryz.underlying37 hi0 hz0 hz1 hz2 rfl (by decide) _ _ _ rfl ((hown.alloc _).alloc _) ⟨wr.heap.size + 1, 0, none⟩ 1 1 [.int .i64 pa, .int .i64 pb] rfl rfl ?d1 ?d2 ?d3 ?d4 ?d5 ?_)
            case d1 => exact Hbl.out
            case d2 => intro u hu; simp at hu; rcases hu with rfl | rfl <;> rfl
            case d3 => unfold maxLen; omega
            case d4 => omega
            case d5 => simp; omega
            intro v' w3 hown3 hg3 _
            have hfr3 : Fr w1.heap.size w1 w3 := ((hfr.alloc _).alloc _).grown hg3 (fun g hg => (hlt2 g hg).1)
            have Hown3 := Lib.hid hown3
            clear hg3 hlt2 hown3 Hbl
            go_wp2_with fail
            go_roundw
            case rel =>
              refine ⟨k + 1, by omega, by go_num, hfr3, ?_⟩
              rw [Htk.out]
              have := Hown3.out
              rw [List.length_append, comCells, List.flatMap_append]
              simp only [List.flatMap_cons, List.flatMap_nil, List.append_nil]
              exact this
            case measure => simp [intOf] <;> omega
          · have htk : (ps.take (k + 1)).filter isCom = (ps.take k).filter isCom := by
              rw [List.take_add_one, Hp.out, List.filter_append]; simp [isCom, ht]
            have Htk := Lib.hid htk; clear htk
            have hb8 : (pk == 8) = false := by simp [ht]
            clear ht hlt2
            have hown2 := hown.alloc (.cells #[.int .i64 pk, .int .i64 pa, .int .i64 pb] 58)
            go_wp2_with fail
            go_roundw
            case rel => exact ⟨k + 1, by omega, by go_num, hfr.alloc _, by rw [Htk.out]; exact hown2⟩
            case measure => simp [intOf] <;> omega
        · have hke : ps.take k = ps := List.take_of_length_le (by omega)
          rw [hke] at hown
          have Hown := Lib.hid hown; clear hown hke
          go_wp2_with fail
          go_ret3
          exact ⟨_, by rw [Hre.out]; rfl, hf1.trans hfr, by rw [Ho.out]; exact own_base Hown.out hf1.2.size⟩
  · have hb : ((readErr lang l).2 != 0) = true := by simp [he]
    have ho : outComs lang l = [] := by simp [outComs, outPcs, he]
    have Ho := Lib.hid ho; clear ho he
    go_wp2_with fail
    go_ret3
    exact ⟨.slice none 0 0, rfl, hf1, by rw [Ho.out]; exact ⟨rfl, .inl ⟨rfl, rfl⟩⟩⟩
end Go.Proofs.YtfmpcchlpplanaaGreatDoor
