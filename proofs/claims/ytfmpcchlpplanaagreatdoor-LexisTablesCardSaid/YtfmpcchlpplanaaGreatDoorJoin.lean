/- The contract on tokens written with canonical spacing. -/
import Derived.Test.YtfmpcchlpplanaaGreatDoorBuild
namespace Go.Proofs.YtfmpcchlpplanaaGreatDoor
open Go.RowKit

def tok0 : Tok := ⟨0, [], 0⟩
def sepK (lang : Int) (ts : List Tok) (k : Nat) : List UInt8 := if 0 < k ∧ together lang (ts.getD (k - 1) tok0) (ts.getD k tok0) = false then [32] else []
def joinK (lang : Int) (ts : List Tok) : Nat → List UInt8
  | 0 => []
  | k + 1 => joinK lang ts k ++ sepK lang ts k ++ (ts.getD k tok0).text
def tokErrs (lang : Int) : List Tok → Int
  | [] => 0
  | t :: r => if tokErr lang t ≠ 0 then tokErr lang t else tokErrs lang r
def joinRes (lang : Int) (ts : List Tok) : List UInt8 × Int :=
  if ¬ (lang = 0 ∨ lang = 1) then ([], 4) else if 1500 < ts.length then ([], 2) else if tokErrs lang ts ≠ 0 then ([], tokErrs lang ts)
  else if 8000 < (joinK lang ts ts.length).length then ([], 2) else (joinK lang ts ts.length, 0)

/-- A slice of tokens that lies below block B and reads so. -/
def TokRow (w : World) (B : Nat) (v : Value) (ts : List Tok) : Prop :=
  ∃ A cap, v = .slice A ts.length cap ∧ (ts = [] ∨ ∃ b off, A = some ⟨b, off, none⟩ ∧ b < B ∧ ∀ (j : Nat) (u : Value), (tokCells ts)[j]? = some u → w.cell? ⟨b, off + j, none⟩ = some u)
theorem joinK_len (lang : Int) (ts : List Tok) (M : Nat) (h : ∀ t ∈ ts, t.text.length ≤ M) : ∀ k, k ≤ ts.length → (joinK lang ts k).length ≤ k * (M + 1)
  | 0, _ => by simp [joinK]
  | k + 1, hk => by
    have ih := joinK_len lang ts M h k (by omega)
    have ht : (ts.getD k tok0).text.length ≤ M := by
      rw [List.getD_eq_getElem?_getD, List.getElem?_eq_getElem (by omega)]
      exact h _ (List.getElem_mem _)
    have hs : (sepK lang ts k).length ≤ 1 := by unfold sepK; split <;> simp
    rw [joinK, List.length_append, List.length_append, Nat.succ_mul]
    omega

set_option maxHeartbeats 1000000 in
set_option maxRecDepth 100000 in
theorem joinedText_any (lang : Int) (v : Value) (ts : List Tok) (w : World) (hrow : TokRow w w.heap.size v ts) (hts : ∀ t ∈ ts, t.text.length ≤ 9000) (hmx : ts.length ≤ maxLen) (hg : Hid (Glob w)) :
    Calls Tryz.prog 16 #[.int .i64 lang, v] w fun e w' => e = .returned (.tuple #[.string ⟨(joinRes lang ts).1.toArray⟩, .int .i64 (joinRes lang ts).2]) ∧ Fr w.heap.size w w' := by
  obtain ⟨A, cap, rfl, hrow⟩ := hrow
  unfold maxLen at hmx
  have hf := Fr.self w
  by_cases hlang : lang = 0 ∨ lang = 1
  · have hlg := decide_eq_true hlang
    have Hlg := Lib.hid hlg; clear hlg
    by_cases hbig : 1500 < ts.length
    · have hv : joinRes lang ts = ([], 2) := by unfold joinRes; rw [if_neg (fun h => h hlang), if_pos hbig]
      have Hv := Lib.hid hv; clear hv hrow hts
      go_enter Tryz.func16, Tryz.ntmps16
      go_wp2_with (go_at_call 17; refine (isLanguage_any _ _).mono ?_; rintro e w' ⟨rfl, rfl⟩; rw [Hlg.out])
      go_ret2
      exact ⟨by rw [Hv.out]; rfl, hf⟩
    · have hv : joinRes lang ts = if tokErrs lang ts ≠ 0 then ([], tokErrs lang ts) else if 8000 < (joinK lang ts ts.length).length then ([], 2) else (joinK lang ts ts.length, 0) := by
        unfold joinRes; rw [if_neg (fun h => h hlang), if_neg hbig]
      have Hv := Lib.hid hv; have Hrow := Lib.hid hrow; have Hts := Lib.hid hts; clear hv hrow hts
      go_enter Tryz.func16, Tryz.ntmps16
      go_wp2_with (go_at_call 17; refine (isLanguage_any _ _).mono ?_; rintro e w' ⟨rfl, rfl⟩; rw [Hlg.out])
      go_loopw [22] (fun i wr => ∃ k : Nat, k ≤ ts.length ∧ i = .int .i64 k ∧ Fr w.heap.size w wr ∧ Hid (tokErrs lang ts = tokErrs lang (ts.drop k))) (fun i _ => ts.length - (intOf i).toNat)
      case atStart => exact ⟨0, by omega, rfl, hf, rfl⟩
      case round =>
        obtain ⟨k, hk, rfl, hfr, HE⟩ := hrel
        have hgr := Glob.fr hg hfr
        have hgrow := hfr.le
        by_cases hkl : k < ts.length
        · obtain ⟨⟨tk, tt, tp⟩, ht⟩ : ∃ p, ts[k]? = some p := ⟨_, List.getElem?_eq_getElem hkl⟩
          have hmem := List.mem_of_getElem? ht
          have htl := Hts.out _ hmem
          obtain ⟨b, off, rfl, hb, hcells⟩ : ∃ b off, A = some ⟨b, off, none⟩ ∧ b < w.heap.size ∧ ∀ (j : Nat) (u : Value), (tokCells ts)[j]? = some u → w.cell? ⟨b, off + j, none⟩ = some u := by
            rcases Hrow.out with h | h
            · rw [h] at hkl; simp at hkl
            · exact h
          have htc := tokCells_get ts k _ ht
          have g0 : wr.cell? ⟨b, off + k * 3, none⟩ = some (.int .i64 tk) := (hfr.cell (p := ⟨b, _, none⟩) hb).trans (hcells _ _ htc.1)
          have g1 : wr.cell? ⟨b, off + k * 3 + 1, none⟩ = some (.string ⟨tt.toArray⟩) := (hfr.cell (p := ⟨b, _, none⟩) hb).trans (hcells _ _ htc.2.1)
          have g2 : wr.cell? ⟨b, off + k * 3 + 2, none⟩ = some (.int .i64 tp) := (hfr.cell (p := ⟨b, _, none⟩) hb).trans (hcells _ _ htc.2.2)
          have hdr : ts.drop k = ⟨tk, tt, tp⟩ :: ts.drop (k + 1) := by
            rw [List.drop_eq_getElem_cons hkl]; congr 1
            rw [List.getElem?_eq_getElem hkl] at ht; exact Option.some.inj ht
          have hct := checkToken_any lang ⟨tk, tt, tp⟩ (wr.alloc (Obj.cells #[.int .i64 tk, .string ⟨tt.toArray⟩, .int .i64 tp] 43)) (by simp at htl ⊢; omega) (Glob.fr hg (hfr.alloc _))
          obtain ⟨te, hte⟩ : ∃ x, tokErr lang ⟨tk, tt, tp⟩ = x := ⟨_, rfl⟩
          rw [hte] at hct
          simp only at hct
          have Hdr := Lib.hid hdr; have Hte := Lib.hid hte; have Hct := Lib.hid hct; have Hcells := Lib.hid hcells
          clear hdr hte hct ht hmem htl htc hcells
          by_cases he : te = 0
          · have hb0 : (te != 0) = false := by simp [he]
            have He := Lib.hid he; clear he
            go_wp2_with (go_at_call 33; refine Hct.out.mono ?_; rintro e w2 ⟨rfl, hf2⟩)
            go_roundw
            case rel => exact ⟨k + 1, by omega, by go_num, (hfr.alloc _).trans hf2, by unfold Hid; rw [HE.out, Hdr.out, tokErrs, Hte.out, if_neg (by simpa using He.out)]⟩
            case measure => simp [intOf] <;> omega
          · have hb0 : (te != 0) = true := by simp [he]
            have hv : joinRes lang ts = ([], te) := by
              rw [Hv.out, HE.out, Hdr.out, tokErrs, Hte.out, if_pos he, if_pos he]
            have Hv2 := Lib.hid hv; clear hv he
            go_wp2_with (go_at_call 33; refine Hct.out.mono ?_; rintro e w2 ⟨rfl, hf2⟩)
            go_ret2
            exact ⟨by rw [Hv2.out]; rfl, (hfr.alloc _).trans hf2⟩
        · have hv : joinRes lang ts = if 8000 < (joinK lang ts ts.length).length then ([], 2) else (joinK lang ts ts.length, 0) := by
            have h0 : tokErrs lang ts = 0 := by rw [HE.out, List.drop_eq_nil_of_le (by omega)]; rfl
            rw [Hv.out, h0]; simp
          have Hv2 := Lib.hid hv; clear hv HE Hv
          obtain ⟨wo, rfl⟩ : ∃ wo : World, wo = wr := ⟨_, rfl⟩
          have hB0 := Lib.fresh_isBuilder 65 5 wo
          go_wp2_with fail
          go_loopw [35] (fun i wr => ∃ k : Nat, k ≤ ts.length ∧ i = .int .i64 k ∧ Fr w.heap.size w wr ∧ wo.heap.size < wr.heap.size ∧ Lib.IsBuilder 65 5 wo.heap.size wo.heap.size (Lib.byteCells (joinK lang ts k)) wr) (fun i _ => ts.length - (intOf i).toNat)
          case atStart => exact ⟨0, by omega, rfl, hfr.alloc _, by simp, hB0⟩
          case round =>
            obtain ⟨k, hk, rfl, hfr, hBlt, hbd⟩ := hrel
            have hgr := Glob.fr hg hfr
            have hgrow2 := hfr.le
            have hjl := joinK_len lang ts 9000 Hts.out k hk
            by_cases hkl : k < ts.length
            · obtain ⟨⟨tk, tt, tp⟩, ht⟩ : ∃ p, ts[k]? = some p := ⟨_, List.getElem?_eq_getElem hkl⟩
              have htl := Hts.out _ (List.mem_of_getElem? ht)
              simp only at htl
              obtain ⟨b, off, rfl, hb, hcells⟩ : ∃ b off, A = some ⟨b, off, none⟩ ∧ b < w.heap.size ∧ ∀ (j : Nat) (u : Value), (tokCells ts)[j]? = some u → w.cell? ⟨b, off + j, none⟩ = some u := by
                rcases Hrow.out with h | h
                · rw [h] at hkl; simp at hkl
                · exact h
              have htc := tokCells_get ts k _ ht
              have g0 : wr.cell? ⟨b, off + k * 3, none⟩ = some (.int .i64 tk) := (hfr.cell (p := ⟨b, _, none⟩) hb).trans (hcells _ _ htc.1)
              have g1 : wr.cell? ⟨b, off + k * 3 + 1, none⟩ = some (.string ⟨tt.toArray⟩) := (hfr.cell (p := ⟨b, _, none⟩) hb).trans (hcells _ _ htc.2.1)
              have g2 : wr.cell? ⟨b, off + k * 3 + 2, none⟩ = some (.int .i64 tp) := (hfr.cell (p := ⟨b, _, none⟩) hb).trans (hcells _ _ htc.2.2)
              have hgk : ts.getD k tok0 = ⟨tk, tt, tp⟩ := by rw [List.getD_eq_getElem?_getD, ht]; rfl
              have hfb : Fr w.heap.size w (wr.alloc (Obj.cells #[.int .i64 tk, .string ⟨tt.toArray⟩, .int .i64 tp] 43)) := hfr.alloc _
              have hbb : Lib.IsBuilder 65 5 wo.heap.size wo.heap.size (Lib.byteCells (joinK lang ts k)) (wr.alloc (Obj.cells #[.int .i64 tk, .string ⟨tt.toArray⟩, .int .i64 tp] 43)) := isBuilder_fr hbd (Fr.alloc (Fr.self wr) _)
              have hlb : (Lib.byteCells (joinK lang ts k)).length = (joinK lang ts k).length := Lib.byteCells_length _
              have hbt : ∀ W : World, (W.cell? ⟨wr.heap.size, 1, none⟩ = some (.string ⟨tt.toArray⟩) ∨ True) := fun _ => .inr trivial
              have Hgk := Lib.hid hgk; clear hgk hbt
              by_cases hk0 : k = 0
              · have hnx : joinK lang ts (k + 1) = joinK lang ts k ++ tt := by
                  have : sepK lang ts k = [] := by unfold sepK; rw [if_neg (by omega)]
                  rw [joinK, this, List.append_nil, Hgk.out]
                have hpos : decide ((0 : Int) < (k : Int)) = false := by simp; omega
                have hpos2 : decide (0 < k) = false := by simp; omega
                have Hnx := Lib.hid hnx; have Hlb := Lib.hid hlb; have Hk0 := Lib.hid hk0
                clear hnx hlb htc ht hcells hk0
                go_wp2_with fail
                go_quiet (fail)
                go_wp2_with fail
                refine (writeString_any wo.heap.size wo.heap.size (Lib.byteCells (joinK lang ts k)) ⟨tt.toArray⟩ _ (by exact hbb) (by rw [Hlb.out, ba_size, ba_mk]; omega) (by simp; omega)).mono ?_
                rintro e w3 ⟨rfl, hba, hbe⟩
                have hsz3 := hbe.size
                simp at hsz3
                have hfr3 : Fr w.heap.size w w3 := ⟨hfr.1, ((hfb.drewN nq).2.trans (hbe.mono hgrow))⟩
                have Hba := Lib.hid hba; clear hba hbe
                go_wp2_with fail
                go_roundw
                case rel => exact ⟨k + 1, by omega, by go_num, hfr3, by omega, .inr (by rw [Hnx.out, Lib.byteCells, List.map_append]; exact Hba.out)⟩
                case measure => simp [intOf] <;> omega
              · obtain ⟨m, rfl⟩ : ∃ m, k = m + 1 := ⟨k - 1, by omega⟩
                obtain ⟨⟨pk, pt, pp⟩, hpv⟩ : ∃ p, ts[m]? = some p := ⟨_, List.getElem?_eq_getElem (by omega)⟩
                have hptl := Hts.out _ (List.mem_of_getElem? hpv)
                simp only at hptl
                have hpc := tokCells_get ts m _ hpv
                have p0 : wr.cell? ⟨b, off + m * 3, none⟩ = some (.int .i64 pk) := (hfr.cell (p := ⟨b, _, none⟩) hb).trans (hcells _ _ hpc.1)
                have p1 : wr.cell? ⟨b, off + m * 3 + 1, none⟩ = some (.string ⟨pt.toArray⟩) := (hfr.cell (p := ⟨b, _, none⟩) hb).trans (hcells _ _ hpc.2.1)
                have p2 : wr.cell? ⟨b, off + m * 3 + 2, none⟩ = some (.int .i64 pp) := (hfr.cell (p := ⟨b, _, none⟩) hb).trans (hcells _ _ hpc.2.2)
                have hgp : ts.getD m tok0 = ⟨pk, pt, pp⟩ := by rw [List.getD_eq_getElem?_getD, hpv]; rfl
                have hm1 : m < ts.length := by omega
                have hst := standTogether_any lang ⟨pk, pt, pp⟩ ⟨tk, tt, tp⟩ (wr.alloc (Obj.cells #[.int .i64 tk, .string ⟨tt.toArray⟩, .int .i64 tp] 43)).drew (by simp; omega) (by simp; omega) (Glob.fr hg hfb.drew)
                have hsk : sepK lang ts (m + 1) = if together lang ⟨pk, pt, pp⟩ ⟨tk, tt, tp⟩ = false then [32] else [] := by
                  unfold sepK; rw [Nat.add_sub_cancel, Hgk.out, hgp]; simp
                rcases htg : together lang ⟨pk, pt, pp⟩ ⟨tk, tt, tp⟩ with _ | _
                · rw [htg] at hst hsk
                  have hnx : joinK lang ts (m + 1 + 1) = (joinK lang ts (m + 1) ++ [32]) ++ tt := by rw [joinK, hsk, if_pos rfl, Hgk.out]
                  have Hnx := Lib.hid hnx; have Hlb := Lib.hid hlb; have Hk0 := Lib.hid hk0; have Hst := Lib.hid hst
                  clear hnx hlb htc ht hcells hk0 hst hsk htg hgp hpc hpv
                  go_wp2_with fail
                  have hw0 : IntKind.i64.wrap (m : Int) = m := IntWalk.i64_in _ (by omega)
                  have hw1 : (0 : Int) ≤ (m : Int) := by omega
                  have hw2 : (m : Int) < ts.length := by omega
                  have hbw : b < wr.heap.size := by omega
                  have r0 := (World.cell?_alloc_lt wr (Obj.cells #[.int .i64 tk, .string ⟨tt.toArray⟩, .int .i64 tp] 43) ⟨b, off + m * 3, none⟩ hbw).trans p0
                  have r1 := (World.cell?_alloc_lt wr (Obj.cells #[.int .i64 tk, .string ⟨tt.toArray⟩, .int .i64 tp] 43) ⟨b, off + m * 3 + 1, none⟩ hbw).trans p1
                  have r2 := (World.cell?_alloc_lt wr (Obj.cells #[.int .i64 tk, .string ⟨tt.toArray⟩, .int .i64 tp] 43) ⟨b, off + m * 3 + 2, none⟩ hbw).trans p2
                  have v0 := cell_new wr #[.int .i64 tk, .string ⟨tt.toArray⟩, .int .i64 tp] 43 0
                  have v1 := cell_new wr #[.int .i64 tk, .string ⟨tt.toArray⟩, .int .i64 tp] 43 1
                  have v2 := cell_new wr #[.int .i64 tk, .string ⟨tt.toArray⟩, .int .i64 tp] 43 2
                  simp only [List.getElem?_toArray, List.getElem?_cons_zero, List.getElem?_cons_succ] at v0 v1 v2
                  have hx5 : (wr.alloc (Obj.cells #[.int .i64 tk, .string ⟨tt.toArray⟩, .int .i64 tp] 43)).heap[wr.heap.size]? = some (Obj.cells #[.int .i64 tk, .string ⟨tt.toArray⟩, .int .i64 tp] 43) := heap_alloc_new wr _
                  have hsz5 : wr.heap.size < (wr.alloc (Obj.cells #[.int .i64 tk, .string ⟨tt.toArray⟩, .int .i64 tp] 43)).heap.size := by simp
                  generalize wr.alloc (Obj.cells #[.int .i64 tk, .string ⟨tt.toArray⟩, .int .i64 tp] 43) = w5 at r0 r1 r2 v0 v1 v2 hfb hbb Hst hx5 hsz5 ⊢
                  have Hx5 := Lib.hid hx5; clear hx5
                  go_still_tail 10, (by kernel_rfl)
                  clear hw0 r0 r1 r2 v0 v1 v2
                  change wpList _ _ _ _ _ w5.drew
                  go_wp2_with fail
                  refine Hst.out.mono ?_
                  rintro e w2 ⟨rfl, hf2⟩
                  have hx2 : w2.heap[wr.heap.size]? = some (Obj.cells #[.int .i64 tk, .string ⟨tt.toArray⟩, .int .i64 tp] 43) := (hf2.2.block _ hsz5).trans Hx5.out
                  have hsz2 := hf2.2.size
                  have hsz2' : wr.heap.size < w2.heap.size := Nat.lt_of_lt_of_le hsz5 hsz2
                  have hb2 := isBuilder_fr (w := w5.drew) (by exact hbb) hf2
                  have hfr2 : Fr w.heap.size w w2 := hfb.drew.trans hf2
                  have x1 : w2.cell? ⟨wr.heap.size, 1, none⟩ = some (.string ⟨tt.toArray⟩) := by rw [Lib.cell_of_heap hx2]; rfl
                  have Hx2 := Lib.hid hx2; clear hx2
                  go_wp2_with fail
                  refine (writeByte_any wo.heap.size wo.heap.size _ 32 _ hb2 (by rw [Hlb.out]; omega) (by omega)).mono ?_
                  rintro e w4 ⟨rfl, hba, hbe, hkp⟩
                  have hx4 := hkp _ _ _ (by decide) (by decide) Hx2.out
                  have hsz4 := hbe.size
                  have hfr4 : Fr w.heap.size w w4 := ⟨hfr.1, hfr2.2.trans (hbe.mono hgrow)⟩
                  have y1 : w4.cell? ⟨wr.heap.size, 1, none⟩ = some (.string ⟨tt.toArray⟩) := by rw [Lib.cell_of_heap hx4]; rfl
                  have hb4 : Lib.IsBuilder 65 5 wo.heap.size wo.heap.size (Lib.byteCells (joinK lang ts (m + 1)) ++ [.int .u8 32]) w4 := .inr hba
                  have hl4 : (Lib.byteCells (joinK lang ts (m + 1)) ++ [Value.int .u8 32]).length ≤ 15000000 := by rw [List.length_append, Hlb.out]; simp; omega
                  clear hba hbe hkp hx4 x1 hb2
                  go_wp2_with fail
                  refine (writeString_any wo.heap.size wo.heap.size _ ⟨tt.toArray⟩ _ hb4 (by rw [ba_size, ba_mk]; omega) (by omega)).mono ?_
                  rintro e w3 ⟨rfl, hba, hbe⟩
                  have hsz3 := hbe.size
                  have hfr3 : Fr w.heap.size w w3 := ⟨hfr.1, hfr4.2.trans (hbe.mono hgrow)⟩
                  have Hba := Lib.hid hba; clear hba hbe hb4
                  go_wp2_with fail
                  go_roundw
                  case rel => exact ⟨m + 1 + 1, by omega, by go_num, hfr3, by omega, .inr (by rw [Hnx.out, Lib.byteCells, List.map_append, List.map_append]; exact Hba.out)⟩
                  case measure => simp [intOf] <;> omega
                · rw [htg] at hst hsk
                  have hnx : joinK lang ts (m + 1 + 1) = joinK lang ts (m + 1) ++ tt := by rw [joinK, hsk, if_neg (by decide), List.append_nil, Hgk.out]
                  have Hnx := Lib.hid hnx; have Hlb := Lib.hid hlb; have Hk0 := Lib.hid hk0; have Hst := Lib.hid hst
                  clear hnx hlb htc ht hcells hk0 hst hsk htg hgp hpc hpv
                  go_wp2_with fail
                  have hw0 : IntKind.i64.wrap (m : Int) = m := IntWalk.i64_in _ (by omega)
                  have hw1 : (0 : Int) ≤ (m : Int) := by omega
                  have hw2 : (m : Int) < ts.length := by omega
                  have hbw : b < wr.heap.size := by omega
                  have r0 := (World.cell?_alloc_lt wr (Obj.cells #[.int .i64 tk, .string ⟨tt.toArray⟩, .int .i64 tp] 43) ⟨b, off + m * 3, none⟩ hbw).trans p0
                  have r1 := (World.cell?_alloc_lt wr (Obj.cells #[.int .i64 tk, .string ⟨tt.toArray⟩, .int .i64 tp] 43) ⟨b, off + m * 3 + 1, none⟩ hbw).trans p1
                  have r2 := (World.cell?_alloc_lt wr (Obj.cells #[.int .i64 tk, .string ⟨tt.toArray⟩, .int .i64 tp] 43) ⟨b, off + m * 3 + 2, none⟩ hbw).trans p2
                  have v0 := cell_new wr #[.int .i64 tk, .string ⟨tt.toArray⟩, .int .i64 tp] 43 0
                  have v1 := cell_new wr #[.int .i64 tk, .string ⟨tt.toArray⟩, .int .i64 tp] 43 1
                  have v2 := cell_new wr #[.int .i64 tk, .string ⟨tt.toArray⟩, .int .i64 tp] 43 2
                  simp only [List.getElem?_toArray, List.getElem?_cons_zero, List.getElem?_cons_succ] at v0 v1 v2
                  have hx5 : (wr.alloc (Obj.cells #[.int .i64 tk, .string ⟨tt.toArray⟩, .int .i64 tp] 43)).heap[wr.heap.size]? = some (Obj.cells #[.int .i64 tk, .string ⟨tt.toArray⟩, .int .i64 tp] 43) := heap_alloc_new wr _
                  have hsz5 : wr.heap.size < (wr.alloc (Obj.cells #[.int .i64 tk, .string ⟨tt.toArray⟩, .int .i64 tp] 43)).heap.size := by simp
                  generalize wr.alloc (Obj.cells #[.int .i64 tk, .string ⟨tt.toArray⟩, .int .i64 tp] 43) = w5 at r0 r1 r2 v0 v1 v2 hfb hbb Hst hx5 hsz5 ⊢
                  have Hx5 := Lib.hid hx5; clear hx5
                  go_still_tail 10, (by kernel_rfl)
                  clear hw0 r0 r1 r2 v0 v1 v2
                  change wpList _ _ _ _ _ w5.drew
                  go_wp2_with fail
                  refine Hst.out.mono ?_
                  rintro e w2 ⟨rfl, hf2⟩
                  have hx2 : w2.heap[wr.heap.size]? = some (Obj.cells #[.int .i64 tk, .string ⟨tt.toArray⟩, .int .i64 tp] 43) := (hf2.2.block _ hsz5).trans Hx5.out
                  have hsz2 := hf2.2.size
                  have hsz2' : wr.heap.size < w2.heap.size := Nat.lt_of_lt_of_le hsz5 hsz2
                  have hb2 := isBuilder_fr (w := w5.drew) (by exact hbb) hf2
                  have hfr2 : Fr w.heap.size w w2 := hfb.drew.trans hf2
                  have x1 : w2.cell? ⟨wr.heap.size, 1, none⟩ = some (.string ⟨tt.toArray⟩) := by rw [Lib.cell_of_heap hx2]; rfl
                  have Hx2 := Lib.hid hx2; clear hx2
                  go_wp2_with fail
                  refine (writeString_any wo.heap.size wo.heap.size _ ⟨tt.toArray⟩ _ hb2 (by rw [Hlb.out, ba_size, ba_mk]; omega) (by omega)).mono ?_
                  rintro e w3 ⟨rfl, hba, hbe⟩
                  have hsz3 := hbe.size
                  have hfr3 : Fr w.heap.size w w3 := ⟨hfr.1, hfr2.2.trans (hbe.mono hgrow)⟩
                  have Hba := Lib.hid hba; clear hba hbe
                  go_wp2_with fail
                  go_roundw
                  case rel => exact ⟨m + 1 + 1, by omega, by go_num, hfr3, by omega, .inr (by rw [Hnx.out, Lib.byteCells, List.map_append]; exact Hba.out)⟩
                  case measure => simp [intOf] <;> omega
            · have hke : k = ts.length := by omega
              subst hke
              have hl2 : (Lib.byteCells (joinK lang ts ts.length)).length = (joinK lang ts ts.length).length := Lib.byteCells_length _
              have hbl : wo.heap.size ≤ wr.heap.size := by omega
              generalize hJ : joinK lang ts ts.length = J at *
              have Hl2 := Lib.hid hl2; have HJ := Lib.hid hJ; clear hl2 hJ
              by_cases h8 : 8000 < J.length
              · have hv : joinRes lang ts = ([], 2) := by rw [Hv2.out, if_pos h8]
                have Hv3 := Lib.hid hv; clear hv
                go_wp2_with (go_at_call 37; refine (same_sym (Tryz.Builder_Len wo.heap.size wo.heap.size _ _ hbd)).mono ?_; rintro e w' ⟨rfl, rfl⟩; rw [Hl2.out])
                go_ret2
                exact ⟨by rw [Hv3.out]; rfl, hfr⟩
              · have hv : joinRes lang ts = (J, 0) := by rw [Hv2.out, if_neg h8]
                have Hv3 := Lib.hid hv; clear hv
                go_wp2_with (first | (go_at_call 37; refine (same_sym (Tryz.Builder_Len wo.heap.size wo.heap.size _ _ hbd)).mono ?_; rintro e w' ⟨rfl, rfl⟩; rw [Hl2.out]) | (go_at_call 38; refine (Tryz.Builder_String_any wo.heap.size wo.heap.size J _ hbd hbl).mono ?_; rintro e w4 ⟨rfl, hb4⟩))
                go_ret2
                exact ⟨by rw [Hv3.out]; rfl, hfr.1, hfr.2.trans (hb4.mono hgrow)⟩
  · have hlg := decide_eq_false hlang
    have hv : joinRes lang ts = ([], 4) := by unfold joinRes; rw [if_pos hlang]
    have Hlg := Lib.hid hlg; have Hv := Lib.hid hv; clear hlg hv hlang hrow hts
    go_enter Tryz.func16, Tryz.ntmps16
    go_wp2_with (go_at_call 17; refine (isLanguage_any _ _).mono ?_; rintro e w' ⟨rfl, rfl⟩; rw [Hlg.out])
    go_ret2
    exact ⟨by rw [Hv.out]; rfl, hf⟩
end Go.Proofs.YtfmpcchlpplanaaGreatDoor
