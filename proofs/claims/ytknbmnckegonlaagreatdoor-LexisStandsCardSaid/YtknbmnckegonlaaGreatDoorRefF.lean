/- Contracts on the reference: bits and octets. -/
import Derived.Test.YtknbmnckegonlaaGreatDoorRefE
namespace Go.Proofs.YtknbmnckegonlaaGreatDoor
open Go.RowKit

theorem has1_any (s : ByteArray) (l : List UInt8) (hs : s.data.toList = l) (hsz : s.size ≤ 10000) (a : UInt8) (k : Nat) (w : World) (hk : k ≤ 20000) :
    Calls Tryz.prog 74 #[.string s, .int .i64 k, .string ⟨#[a]⟩] w fun e w' => e = .returned (.bool (decide ((l.drop k).head? = some a))) ∧ w = w' := by
  have h := has_any s l hs ⟨#[a]⟩ [a] rfl k w (by omega) (by omega) (by show 1 ≤ 100000; omega) (by show 0 < 1; omega)
  refine h.mono fun e w' he => ⟨he.1.trans ?_, he.2⟩
  cases l.drop k with
  | nil => rfl
  | cons c t => exact ret_bool (by rw [Bool.eq_iff_iff]; simp [List.isPrefixOf]; exact eq_comm)
theorem all_snoc (p : UInt8 → Bool) (x : List UInt8) (c : UInt8) : (x ++ [c]).all p = (x.all p && p c) := by simp
/-- What the reference's digits returns. -/
def digitsRes (lang : Int) (l : List UInt8) (K : Nat) : Option Nat → Value
  | none => .agg #[.int .i64 0, .int .i64 0, .bool false, .int .i64 39]
  | some n => if 200 < n then .agg #[.int .i64 0, .int .i64 0, .bool false, .int .i64 2]
    else if digitsKind lang ((l.drop (K + 1)).take n) (l.drop (K + 1 + n + 1)) = -1 then .agg #[.int .i64 0, .int .i64 0, .bool false, .int .i64 8]
    else .agg #[.int .i64 (digitsKind lang ((l.drop (K + 1)).take n) (l.drop (K + 1 + n + 1))), .int .i64 ((K + n + 3 : Nat) : Int), .bool false, .int .i64 0]
set_option maxRecDepth 100000 in
set_option maxHeartbeats 8000000 in
theorem digits_any (lang : Int) (hlang : lang = 0 ∨ lang = 1) (s : ByteArray) (l : List UInt8) (hs : s.data.toList = l) (K : Nat) (w : World) (hm : s.size ≤ 10000) (hK : K < s.size) :
    Calls Tryz.prog 73 #[.int .i64 lang, .string s, .int .i64 K] w fun e w' => e = .returned (digitsRes lang l K (closeAt 39 (l.drop (K + 1)))) ∧ Fr w.heap.size w w' := by
  have Hh := Lib.hid (has1_any s l hs hm)
  have Hs := Lib.hid hs; clear hs
  have hf := Fr.self w
  go_enter Tryz.func73, Tryz.ntmps73
  go_wp2_with fail
  go_loop [7, 8, 9] (fun i b h => ∃ (k : Nat) (bb hh : Bool), K + 1 ≤ k ∧ k ≤ s.size ∧ i = .int .i64 k ∧ b = .bool bb ∧ h = .bool hh ∧ Hid (bb = ((l.drop (K + 1)).take (k - (K + 1))).all isBit) ∧ Hid (hh = ((l.drop (K + 1)).take (k - (K + 1))).all isHexa) ∧
      Hid (closeAt 39 (l.drop (K + 1)) = (closeAt 39 (l.drop k)).map (· + (k - (K + 1))))) (fun i b h => s.size - (intOf i).toNat)
  case atStart => exact ⟨K + 1, true, true, by omega, by omega, by go_num, rfl, rfl, by unfold Hid; simp, by unfold Hid; simp, by unfold Hid; simp⟩
  case round =>
    obtain ⟨k, bb, hh, hk1, hk, rfl, rfl, rfl, HB, HX, HR⟩ := hrel
    rcases hd : l.drop k with _ | ⟨c, t⟩
    · have hge := ba_end Hs.out k hd
      have Hr : Hid (digitsRes lang l K (closeAt 39 (l.drop (K + 1))) = .agg #[.int .i64 0, .int .i64 0, .bool false, .int .i64 39]) := by
        unfold Hid; rw [HR.out, hd, closeAt]; rfl
      clear hd
      go_wp2_with fail
      exact bodyPost_ret (piece_res rfl rfl (heap_alloc_new _ _)) rfl ⟨by rw [Hr.out], hf.alloc _⟩
    · obtain ⟨hlt, hc, ht⟩ := ba_at Hs.out k hd
      by_cases h39 : c.toNat = 39
      · have hb : ((s[k].toNat : Int) != 39) = false := by rw [hc]; simp; omega
        have hcl : closeAt 39 (l.drop (K + 1)) = some (k - (K + 1)) := by
          rw [HR.out, hd, closeAt, if_pos h39, Option.map_some]; congr 1; omega
        have hbeh : l.drop (K + 1 + (k - (K + 1)) + 1) = l.drop (k + 1) := by congr 1; omega
        have hend : ((K + (k - (K + 1)) + 3 : Nat) : Int) = (k : Int) + 2 := by omega
        have hlen : ((l.drop (K + 1)).take (k - (K + 1))).length = k - (K + 1) := by
          rw [List.length_take, List.length_drop, ← ba_len Hs.out]; omega
        have hr : digitsRes lang l K (closeAt 39 (l.drop (K + 1))) = if 200 < k - (K + 1) then .agg #[.int .i64 0, .int .i64 0, .bool false, .int .i64 2]
            else if digitsKind lang ((l.drop (K + 1)).take (k - (K + 1))) (l.drop (k + 1)) = -1 then .agg #[.int .i64 0, .int .i64 0, .bool false, .int .i64 8]
            else .agg #[.int .i64 (digitsKind lang ((l.drop (K + 1)).take (k - (K + 1))) (l.drop (k + 1))), .int .i64 ((k : Int) + 2), .bool false, .int .i64 0] := by
          rw [hcl, digitsRes, hbeh, hend]
        have hkd : digitsKind lang ((l.drop (K + 1)).take (k - (K + 1))) (l.drop (k + 1)) = if decide ((l.drop (k + 1)).head? = some 66) = true ∧ bb = true then 4
            else if lang = 0 ∧ decide ((l.drop (k + 1)).head? = some 72) = true ∧ hh = true then 5
            else if lang = 1 ∧ decide ((l.drop (k + 1)).head? = some 79) = true ∧ hh = true ∧ (k - (K + 1)) % 2 = 0 then 5 else -1 := by
          unfold digitsKind; rw [← HB.out, ← HX.out, hlen]; simp only [decide_eq_true_eq]
        clear hcl hbeh hend hlen hd ht hc h39
        by_cases hbig : 200 < k - (K + 1)
        · rw [if_pos hbig] at hr
          have Hr := Lib.hid hr
          clear hr hkd
          go_wp2_with fail
          exact bodyPost_ret (piece_res rfl rfl (heap_alloc_new _ _)) rfl ⟨by rw [Hr.out], hf.alloc _⟩
        · rw [if_neg hbig] at hr
          obtain ⟨x66, h66⟩ : ∃ b, decide ((l.drop (k + 1)).head? = some 66) = b := ⟨_, rfl⟩
          obtain ⟨x72, h72⟩ : ∃ b, decide ((l.drop (k + 1)).head? = some 72) = b := ⟨_, rfl⟩
          obtain ⟨x79, h79⟩ : ∃ b, decide ((l.drop (k + 1)).head? = some 79) = b := ⟨_, rfl⟩
          rw [h66, h72, h79] at hkd
          have H66 := Lib.hid h66; have H72 := Lib.hid h72; have H79 := Lib.hid h79
          have Hh1 : Hid (∀ (a : UInt8) (w : World), Calls Tryz.prog 74 #[.string s, .int .i64 ((k : Int) + 1), .string ⟨#[a]⟩] w fun e w' => e = .returned (.bool (decide ((l.drop (k + 1)).head? = some a))) ∧ w = w') :=
            fun a w => Hh.out a (k + 1) w (by omega)
          have Hr2 : Hid (∀ v : Int, digitsKind lang ((l.drop (K + 1)).take (k - (K + 1))) (l.drop (k + 1)) = v → v ≠ -1 → digitsRes lang l K (closeAt 39 (l.drop (K + 1))) = .agg #[.int .i64 v, .int .i64 ((k : Int) + 2), .bool false, .int .i64 0]) :=
            fun v h1 h2 => by rw [hr, h1, if_neg h2]
          have Hr3 : Hid (digitsKind lang ((l.drop (K + 1)).take (k - (K + 1))) (l.drop (k + 1)) = -1 → digitsRes lang l K (closeAt 39 (l.drop (K + 1))) = .agg #[.int .i64 0, .int .i64 0, .bool false, .int .i64 8]) :=
            fun h1 => by rw [hr, h1, if_pos rfl]
          have hpar : (((k : Int) - K - 1) % 2 == 0) = decide ((k - (K + 1)) % 2 = 0) := by rw [Bool.eq_iff_iff]; simp; omega
          have Hkd := Lib.hid hkd
          clear hr hkd h66 h72 h79
          by_cases hA : x66 = true ∧ bb = true
          · obtain ⟨rfl, rfl⟩ := hA
            have hk4 := Hkd.out
            simp only [and_self, if_true] at hk4
            have Hend := Lib.hid (Hr2.out 4 hk4 (by decide))
            clear hpar hk4
            rcases hlang with rfl | rfl
            all_goals
              go_wp2_with (go_at_call 74; refine (Hh1.out _ _).mono ?_; rintro e w' ⟨rfl, rfl⟩; first | rw [H66.out] | rw [H72.out] | rw [H79.out])
              refine bodyPost_ret (piece_res rfl rfl (heap_alloc2_old _ _ _)) rfl ⟨?_, (hf.alloc _).alloc _⟩
              rw [Hend.out]
          · have hA' : x66 = false ∨ (x66 = true ∧ bb = false) := by
              rcases x66 <;> rcases bb <;> simp_all
            have hk := Hkd.out
            rw [if_neg hA] at hk
            clear hA
            rcases hlang with rfl | rfl
            · clear hpar
              by_cases hC : x72 = true ∧ hh = true
              · obtain ⟨rfl, rfl⟩ := hC
                have hk5 : digitsKind 0 ((l.drop (K + 1)).take (k - (K + 1))) (l.drop (k + 1)) = 5 := by rw [hk]; simp
                have Hend := Lib.hid (Hr2.out 5 hk5 (by decide))
                clear hk hk5
                rcases hA' with rfl | ⟨rfl, rfl⟩
                all_goals
                  go_wp2_with (go_at_call 74; refine (Hh1.out _ _).mono ?_; rintro e w' ⟨rfl, rfl⟩; first | rw [H66.out] | rw [H72.out] | rw [H79.out])
                  refine bodyPost_ret (piece_res rfl rfl (heap_alloc2_old _ _ _)) rfl ⟨?_, (hf.alloc _).alloc _⟩
                  rw [Hend.out]
              · have hk5 : digitsKind 0 ((l.drop (K + 1)).take (k - (K + 1))) (l.drop (k + 1)) = -1 := by rw [hk, if_neg (fun h => hC h.2), if_neg (by simp)]
                have Hend := Lib.hid (Hr3.out hk5)
                have hC' : x72 = false ∨ (x72 = true ∧ hh = false) := by
                  rcases x72 <;> rcases hh <;> simp_all
                clear hk hk5 hC
                rcases hA' with rfl | ⟨rfl, rfl⟩ <;> rcases hC' with rfl | ⟨rfl, rfl⟩
                all_goals
                  go_wp2_with (go_at_call 74; refine (Hh1.out _ _).mono ?_; rintro e w' ⟨rfl, rfl⟩; first | rw [H66.out] | rw [H72.out] | rw [H79.out])
                  refine bodyPost_ret (piece_res rfl rfl (heap_alloc2_old _ _ _)) rfl ⟨?_, (hf.alloc _).alloc _⟩
                  rw [Hend.out]
            · by_cases hC : x79 = true ∧ hh = true ∧ (k - (K + 1)) % 2 = 0
              · have hk5 : digitsKind 1 ((l.drop (K + 1)).take (k - (K + 1))) (l.drop (k + 1)) = 5 := by rw [hk, if_neg (by simp), if_pos ⟨rfl, hC⟩]
                have Hend := Lib.hid (Hr2.out 5 hk5 (by decide))
                rw [decide_eq_true hC.2.2] at hpar
                obtain ⟨rfl, rfl, -⟩ := hC
                clear hk hk5
                rcases hA' with rfl | ⟨rfl, rfl⟩
                all_goals
                  go_wp2_with (go_at_call 74; refine (Hh1.out _ _).mono ?_; rintro e w' ⟨rfl, rfl⟩; first | rw [H66.out] | rw [H72.out] | rw [H79.out])
                  refine bodyPost_ret (piece_res rfl rfl (heap_alloc2_old _ _ _)) rfl ⟨?_, (hf.alloc _).alloc _⟩
                  rw [Hend.out]
              · have hk5 : digitsKind 1 ((l.drop (K + 1)).take (k - (K + 1))) (l.drop (k + 1)) = -1 := by rw [hk, if_neg (by simp), if_neg (fun h => hC h.2)]
                have Hend := Lib.hid (Hr3.out hk5)
                have hC' : x79 = false ∨ (x79 = true ∧ hh = false) ∨ (x79 = true ∧ hh = true ∧ (((k : Int) - K - 1) % 2 == 0) = false) := by
                  rw [hpar]
                  rcases x79 <;> rcases hh <;> simp_all
                clear hk hk5 hC hpar
                rcases hA' with rfl | ⟨rfl, rfl⟩ <;> rcases hC' with rfl | ⟨rfl, rfl⟩ | ⟨rfl, rfl, hpar⟩
                all_goals
                  go_wp2_with (go_at_call 74; refine (Hh1.out _ _).mono ?_; rintro e w' ⟨rfl, rfl⟩; first | rw [H66.out] | rw [H72.out] | rw [H79.out])
                  refine bodyPost_ret (piece_res rfl rfl (heap_alloc2_old _ _ _)) rfl ⟨?_, (hf.alloc _).alloc _⟩
                  rw [Hend.out]
      · by_cases hl : c.toNat = 10 ∨ c.toNat = 9
        · have Hr : Hid (digitsRes lang l K (closeAt 39 (l.drop (K + 1))) = .agg #[.int .i64 0, .int .i64 0, .bool false, .int .i64 39]) := by
            unfold Hid; rw [HR.out, hd, closeAt, if_neg h39, if_pos hl]; rfl
          have hb : ((s[k].toNat : Int) != 39) = true := by rw [hc]; simp; omega
          rcases hl with hl | hl
          · have hb1 : ((s[k].toNat : Int) != 10) = false := by rw [hc]; simp; omega
            clear hd ht hc h39 hl
            go_wp2_with fail
            exact bodyPost_ret (piece_res rfl rfl (heap_alloc_new _ _)) rfl ⟨by rw [Hr.out], hf.alloc _⟩
          · have hb1 : ((s[k].toNat : Int) != 10) = true := by rw [hc]; simp; omega
            have hb2 : ((s[k].toNat : Int) != 9) = false := by rw [hc]; simp; omega
            clear hd ht hc h39 hl
            go_wp2_with fail
            exact bodyPost_ret (piece_res rfl rfl (heap_alloc_new _ _)) rfl ⟨by rw [Hr.out], hf.alloc _⟩
        · have hb : ((s[k].toNat : Int) != 39) = true := by rw [hc]; simp; omega
          have hb1 : ((s[k].toNat : Int) != 10) = true := by rw [hc]; simp; omega
          have hb2 : ((s[k].toNat : Int) != 9) = true := by rw [hc]; simp; omega
          have htk : (l.drop (K + 1)).take (k + 1 - (K + 1)) = (l.drop (K + 1)).take (k - (K + 1)) ++ [c] := by
            have hkl : k - (K + 1) < (l.drop (K + 1)).length := by rw [List.length_drop, ← ba_len Hs.out]; omega
            rw [show k + 1 - (K + 1) = k - (K + 1) + 1 by omega, List.take_succ_eq_append_getElem hkl]
            have h1 := List.drop_eq_getElem_cons hkl
            rw [List.drop_drop, show K + 1 + (k - (K + 1)) = k by omega, hd] at h1
            injection h1 with h2 _
            rw [h2]
          have HB' : Hid ((bb && isBit c) = ((l.drop (K + 1)).take (k + 1 - (K + 1))).all isBit) := by unfold Hid; rw [htk, all_snoc, HB.out]
          have HX' : Hid ((hh && isHexa c) = ((l.drop (K + 1)).take (k + 1 - (K + 1))).all isHexa) := by unfold Hid; rw [htk, all_snoc, HX.out]
          have Hn : Hid (closeAt 39 (l.drop (K + 1)) = (closeAt 39 (l.drop (k + 1))).map (· + (k + 1 - (K + 1)))) := by
            unfold Hid; rw [HR.out, hd, closeAt, if_neg h39, if_neg hl, ht, Option.map_map]; congr 1; funext x; simp; omega
          have hbit : isBit c = (((s[k].toNat : Int) == 48) || ((s[k].toNat : Int) == 49)) := by rw [hc]; unfold isBit; rw [Bool.eq_iff_iff]; simp; omega
          have hhx : isHexa s[k] = isHexa c := by rw [hc]
          obtain ⟨xh, hxh⟩ : ∃ b, isHexa c = b := ⟨_, rfl⟩
          obtain ⟨x0, hx0⟩ : ∃ b, ((s[k].toNat : Int) == 48) = b := ⟨_, rfl⟩
          obtain ⟨x1, hx1⟩ : ∃ b, ((s[k].toNat : Int) == 49) = b := ⟨_, rfl⟩
          rw [hxh] at hhx
          rw [hxh] at HX'
          rw [hbit, hx0, hx1] at HB'
          have Hhx := Lib.hid hhx
          clear hd ht hc h39 hl htk HB HX hbit hxh hhx
          rcases bb <;> rcases hh <;> rcases x0 <;> rcases x1
          all_goals
            go_wp2_with (go_at_call 96; refine (rIsHex_any _ _).mono ?_; rintro e w' ⟨rfl, rfl⟩; rw [Hhx.out])
            go_round
            case rel => exact ⟨k + 1, _, _, by omega, by omega, by go_num, rfl, rfl, HB', HX', Hn⟩
            case measure => simp [intOf] <;> omega
end Go.Proofs.YtknbmnckegonlaaGreatDoor
