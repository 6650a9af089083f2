/- Contracts on the reference: the symbols. -/
import Derived.Test.YtknbmnckegonlaaGreatDoorRefJ
namespace Go.Proofs.YtknbmnckegonlaaGreatDoor
open Go.RowKit

/-- Strings put one by one. -/
def putAll (ws : List (List UInt8)) : List (List UInt8) := ws.foldl (fun a x => putL x a) []
theorem putL_length (x : List UInt8) (ws : List (List UInt8)) : (putL x ws).length ≤ ws.length + 1 := by
  have := putAt_le x ws
  unfold putL; split
  · omega
  · rw [List.length_append, List.length_cons, List.length_take, List.length_drop]; omega
theorem putAll_length (ws : List (List UInt8)) : ∀ k, (putAll (ws.take k)).length ≤ k
  | 0 => by simp [putAll]
  | k + 1 => by
    have ih := putAll_length ws k
    rw [List.take_add_one]
    cases h : ws[k]? with
    | none => simp [putAll] at ih ⊢; omega
    | some x =>
      have := putL_length x (putAll (ws.take k))
      simp [putAll, List.foldl_append] at ih this ⊢
      omega
theorem putAll_snoc (ws : List (List UInt8)) {k : Nat} {x : List UInt8} (h : ws[k]? = some x) : putAll (ws.take (k + 1)) = putL x (putAll (ws.take k)) := by
  rw [List.take_add_one, h]
  simp [putAll, List.foldl_append]

theorem strs_new2 (w : World) : Strs ((w.alloc (.cells (strCells ttcnS).toArray 9)).alloc (.cells (strCells asnS).toArray 9)) (w.heap.size + 1) asnS := by
  have h := strs_new (w.alloc (.cells (strCells ttcnS).toArray 9)) (strCells asnS).toArray 9 asnS rfl
  have e : (w.alloc (.cells (strCells ttcnS).toArray 9)).heap.size = w.heap.size + 1 := by simp
  rwa [e] at h

set_option maxRecDepth 100000 in
set_option maxHeartbeats 4000000 in
theorem symbols_any (lang : Int) (hlang : lang = 0 ∨ lang = 1) (w : World) :
    Calls Tryz.prog 28 #[.int .i64 lang] w fun e w' => (∃ v', e = .returned v' ∧ StrRow w' v' (putAll (symsOf lang))) ∧ Fr w.heap.size w w' := by
  have hf := Fr.self w
  rcases hlang with rfl | rfl
  · have Hst0 := Lib.hid (strs_new2 w)
    have hln : (symsOf 0).length = 24 := by kernel_rfl
    have Hln := Lib.hid hln; clear hln
    go_enter Tryz.func28, Tryz.ntmps28
    go_wp2_with fail
    go_loopw [4, 5] (fun v i wr => ∃ k : Nat, k ≤ 24 ∧ i = .int .i64 k ∧ Hid (StrRow wr v (putAll ((symsOf 0).take k))) ∧ Hid (Strs wr (w.heap.size + 1) (symsOf 0)) ∧ Fr w.heap.size w wr ∧ w.heap.size + 1 < wr.heap.size) (fun _ i _ => 24 - (intOf i).toNat)
    case atStart => exact ⟨0, by omega, by go_num, .inl ⟨rfl, rfl⟩, Hst0.out, (hf.alloc _).alloc _, by simp⟩
    case round =>
      obtain ⟨k, hk, rfl, HV, HS, hfr, hgl⟩ := hrel
      have hpl := putAll_length (symsOf 0) k
      by_cases hlt : k < 24
      · obtain ⟨x, hx⟩ : ∃ x, (symsOf 0)[k]? = some x := ⟨_, List.getElem?_eq_getElem (by rw [Hln.out]; exact hlt)⟩
        have hc := HS.out k x hx
        have hsn := putAll_snoc _ hx
        have hpu := put_any _ _ ⟨x.toArray⟩ x rfl wr HV.out (by omega)
        rw [← hsn] at hpu
        have Hpu := Lib.hid hpu
        clear hx hsn hpu
        go_wp2_with (go_at_call 53; refine Hpu.out.mono ?_; rintro e w2 ⟨⟨v2, rfl, hv2⟩, hf2⟩)
        have HV2 := Lib.hid hv2; clear hv2
        have HS2 : Hid (Strs w2 (w.heap.size + 1) (symsOf 0)) := strs_fr HS.out hgl hf2.2
        have hgl2 := hf2.2.size
        go_wp2_with fail
        go_roundw
        case rel => exact ⟨k + 1, by omega, by go_num, HV2, HS2, hfr.trans hf2, by omega⟩
        case measure => simp [intOf] <;> omega
      · have hv : StrRow wr u4 (putAll (symsOf 0)) := by have := HV.out; rwa [List.take_of_length_le (by rw [Hln.out]; omega)] at this
        have Hv := Lib.hid hv; clear hv
        go_wp2_with fail
        go_ret
        exact ⟨⟨_, rfl, Hv.out⟩, hfr⟩
  · have Hst0 := Lib.hid (strs_new w (strCells ttcnS).toArray 9 ttcnS rfl)
    have hln : (symsOf 1).length = 31 := by kernel_rfl
    have Hln := Lib.hid hln; clear hln
    go_enter Tryz.func28, Tryz.ntmps28
    go_wp2_with fail
    go_loopw [4, 5] (fun v i wr => ∃ k : Nat, k ≤ 31 ∧ i = .int .i64 k ∧ Hid (StrRow wr v (putAll ((symsOf 1).take k))) ∧ Hid (Strs wr (w.heap.size) (symsOf 1)) ∧ Fr w.heap.size w wr ∧ w.heap.size < wr.heap.size) (fun _ i _ => 31 - (intOf i).toNat)
    case atStart => exact ⟨0, by omega, by go_num, .inl ⟨rfl, rfl⟩, Hst0.out, hf.alloc _, by simp⟩
    case round =>
      obtain ⟨k, hk, rfl, HV, HS, hfr, hgl⟩ := hrel
      have hpl := putAll_length (symsOf 1) k
      by_cases hlt : k < 31
      · obtain ⟨x, hx⟩ : ∃ x, (symsOf 1)[k]? = some x := ⟨_, List.getElem?_eq_getElem (by rw [Hln.out]; exact hlt)⟩
        have hc := HS.out k x hx
        have hsn := putAll_snoc _ hx
        have hpu := put_any _ _ ⟨x.toArray⟩ x rfl wr HV.out (by omega)
        rw [← hsn] at hpu
        have Hpu := Lib.hid hpu
        clear hx hsn hpu
        go_wp2_with (go_at_call 53; refine Hpu.out.mono ?_; rintro e w2 ⟨⟨v2, rfl, hv2⟩, hf2⟩)
        have HV2 := Lib.hid hv2; clear hv2
        have HS2 : Hid (Strs w2 (w.heap.size) (symsOf 1)) := strs_fr HS.out hgl hf2.2
        have hgl2 := hf2.2.size
        go_wp2_with fail
        go_roundw
        case rel => exact ⟨k + 1, by omega, by go_num, HV2, HS2, hfr.trans hf2, by omega⟩
        case measure => simp [intOf] <;> omega
      · have hv : StrRow wr u4 (putAll (symsOf 1)) := by have := HV.out; rwa [List.take_of_length_le (by rw [Hln.out]; omega)] at this
        have Hv := Lib.hid hv; clear hv
        go_wp2_with fail
        go_ret
        exact ⟨⟨_, rfl, Hv.out⟩, hfr⟩
end Go.Proofs.YtknbmnckegonlaaGreatDoor
