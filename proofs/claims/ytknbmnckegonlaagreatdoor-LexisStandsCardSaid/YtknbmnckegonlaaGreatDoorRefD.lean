/- Contracts on the reference: numbers. -/
import Derived.Test.YtknbmnckegonlaaGreatDoorRefC
import Derived.Test.YtknbmnckegonlaaGreatDoorNum
namespace Go.Proofs.YtknbmnckegonlaaGreatDoor
open Go.RowKit

theorem fold_pow : ∀ (t : List UInt8) (a : Nat), a * 10 ^ t.length ≤ t.foldl (fun n c => 10 * n + (c.toNat - 48)) a
  | [], a => by simp
  | c :: t, a => by
    rw [List.foldl_cons, List.length_cons, Nat.pow_succ]
    refine Nat.le_trans ?_ (fold_pow t _)
    rw [Nat.mul_comm (10 ^ t.length) 10, ← Nat.mul_assoc]
    exact Nat.mul_le_mul_right _ (by omega)
theorem decVal_app (a b : List UInt8) : decVal (a ++ b) = b.foldl (fun n c => 10 * n + (c.toNat - 48)) (decVal a) := by
  unfold decVal; rw [List.foldl_append]
theorem decVal_big (c : UInt8) (t : List UInt8) (hc : isDigit c = true) (h48 : c.toNat ≠ 48) (ht : 19 ≤ t.length) : maxInteger < decVal (c :: t) := by
  have h := fold_pow t (10 * 0 + (c.toNat - 48))
  rw [isDigit, decide_eq_true_eq] at hc
  have h1 : 10 ^ 19 ≤ 10 ^ t.length := Nat.pow_le_pow_right (by omega) ht
  have h2 : 1 * 10 ^ t.length ≤ (10 * 0 + (c.toNat - 48)) * 10 ^ t.length := Nat.mul_le_mul_right _ (by omega)
  have h3 : decVal (c :: t) = t.foldl (fun n c => 10 * n + (c.toNat - 48)) (10 * 0 + (c.toNat - 48)) := rfl
  unfold maxInteger
  rw [h3]
  have : (10 : Nat) ^ 19 = 10000000000000000000 := by decide
  omega
/-- The number so far, or that it is too large. -/
def numState (ds : List UInt8) (k : Nat) (n : Nat) : Prop :=
  (n = decVal (ds.take k) ∧ n ≤ 1152921504606846976 ∧ (k < ds.length → n ≤ 115292150460684697)) ∨ (n = 1152921504606846977 ∧ 1152921504606846976 < decVal ds)
theorem numState_step (ds : List UInt8) (k n : Nat) (hk : k < ds.length) (h : numState ds k n) (hn : n ≤ 1152921504606846976) (hd : isDigit ds[k] = true) :
    n ≤ 115292150460684697 ∧ 48 ≤ ds[k].toNat ∧ ds[k].toNat ≤ 57 ∧
    numState ds (k + 1) (if 115292150460684697 < min (10 * n + (ds[k].toNat - 48)) 1152921504606846977 ∧ k + 1 < ds.length then 1152921504606846977 else min (10 * n + (ds[k].toNat - 48)) 1152921504606846977) := by
  rw [isDigit, decide_eq_true_eq] at hd
  rcases h with ⟨h1, h2, h3⟩ | ⟨h1, h2⟩
  · have h3 := h3 hk
    refine ⟨h3, hd.1, hd.2, ?_⟩
    have hv : decVal (ds.take (k + 1)) = 10 * n + (ds[k].toNat - 48) := by
      rw [List.take_succ_eq_append_getElem hk, decVal_app, ← h1]; rfl
    have hfull : decVal ds = (ds.drop (k + 1)).foldl (fun n c => 10 * n + (c.toNat - 48)) (decVal (ds.take (k + 1))) := by
      rw [← decVal_app, List.take_append_drop]
    have hp := fold_pow (ds.drop (k + 1)) (decVal (ds.take (k + 1)))
    rw [← hfull, List.length_drop] at hp
    by_cases hb : 115292150460684697 < min (10 * n + (ds[k].toNat - 48)) 1152921504606846977 ∧ k + 1 < ds.length
    · rw [if_pos hb]
      refine .inr ⟨rfl, ?_⟩
      have : 10 ^ 1 ≤ 10 ^ (ds.length - (k + 1)) := Nat.pow_le_pow_right (by omega) (by omega)
      have h4 := Nat.mul_le_mul_left (decVal (ds.take (k + 1))) this
      omega
    · rw [if_neg hb]
      by_cases hk1 : k + 1 < ds.length
      · exact .inl ⟨by omega, by omega, fun _ => by omega⟩
      · have : ds.drop (k + 1) = [] := List.drop_eq_nil_of_le (by omega)
        rw [this, List.foldl_nil] at hfull
        by_cases hbig : 10 * n + (ds[k].toNat - 48) ≤ 1152921504606846976
        · exact .inl ⟨by omega, by omega, fun h => absurd h hk1⟩
        · exact .inr ⟨by omega, by omega⟩
  · omega
def numErr (ds : List UInt8) : Int := if ds.head? = some 48 ∧ 1 < ds.length then 8 else if maxInteger < decVal ds then 3 else 0
theorem piece_res {fn : Func} {p : Tmp} (h : fn.results = #[.cell p 79]) {tmps : Array Value} {W : World} {g : Nat} {k e r : Int} {b : Bool} (hp : tmps.getD p undef = .pointer (some ⟨g, 0, none⟩))
    (hg : W.heap[g]? = some (.cells #[.int .i64 k, .int .i64 e, .bool b, .int .i64 r] 79)) : (results fn tmps).run Tryz.prog W = .ok (.agg #[.int .i64 k, .int .i64 e, .bool b, .int .i64 r]) W :=
  results_cell_row h tmps W g _ _ (0, 0) _ hp hg Tryz.underlying79 rfl (by kernel_rfl)
set_option maxRecDepth 100000 in
set_option maxHeartbeats 2000000 in
theorem rNumber_any (s : ByteArray) (l : List UInt8) (hs : s.data.toList = l) (K E : Nat) (w : World) (hm : s.size ≤ 10000) (hKE : K < E) (hE : E ≤ s.size) (hdig : ∀ c ∈ (l.drop K).take (E - K), isDigit c = true) :
    Calls Tryz.prog 71 #[.string s, .int .i64 K, .int .i64 E] w fun e w' => e = .returned (.agg #[.int .i64 2, .int .i64 E, .bool false, .int .i64 (numErr ((l.drop K).take (E - K)))]) ∧ Fr w.heap.size w w' := by
  obtain ⟨ds, hds⟩ : ∃ ds, (l.drop K).take (E - K) = ds := ⟨_, rfl⟩
  have hlen : ds.length = E - K := by rw [← hds, List.length_take, List.length_drop, ← ba_len hs]; omega
  rw [hds] at hdig ⊢
  have hget : ∀ (k : Nat) (h1 : k < ds.length) (h2 : K + k < s.size), ds[k] = s[K + k] := by
    intro k h1 h2
    rw [ba_get hs _ h2]
    subst hds
    rw [List.getElem_take, List.getElem_drop]
  have Hdig := Lib.hid hdig; have Hget := Lib.hid hget
  have hf := Fr.self w
  clear hs hdig hget hds
  go_enter Tryz.func71, Tryz.ntmps71
  go_wp2_with fail
  go_loop [8, 9] (fun v i => ∃ j n : Nat, K ≤ j ∧ j ≤ E ∧ n ≤ 1152921504606846977 ∧ v = .int .i64 n ∧ i = .int .i64 j ∧ Hid (numState ds (j - K) n)) (fun v i => E - (intOf i).toNat)
  case atStart => exact ⟨K, 0, by omega, by omega, by omega, rfl, rfl, .inl ⟨by simp [decVal], by omega, fun _ => by omega⟩⟩
  case round =>
    obtain ⟨j, n, hKj, hjE, hn, rfl, rfl, HR⟩ := hrel
    by_cases hin : j < E ∧ n ≤ 1152921504606846976
    · obtain ⟨hj, hn1⟩ := hin
      have hks : j < s.size := by omega
      obtain ⟨h1, h2, h3, h4⟩ := numState_step ds (j - K) n (by omega) HR.out hn1 (Hdig.out _ (List.getElem_mem _))
      have hgj : ds[j - K]'(by omega) = s[j] := by
        have hjj : K + (j - K) = j := by omega
        have h := Hget.out (j - K) (by omega) (by omega)
        simpa only [hjj] using h
      rw [hgj] at h2 h3 h4
      have hjl : (j - K + 1 < ds.length) = (j + 1 < E) := by rw [eq_iff_iff]; omega
      rw [show j - K + 1 = j + 1 - K by omega] at h4 hjl
      have hwu : IntKind.u8.wrap ((s[j].toNat : Int) - 48) = (s[j].toNat : Int) - 48 := IntWalk.u8_in _ (by omega)
      have hmin : min (10 * (n : Int) + ((s[j].toNat : Int) - 48)) 1152921504606846977 = ((min (10 * n + (s[j].toNat - 48)) 1152921504606846977 : Nat) : Int) := by omega
      obtain ⟨u, hu⟩ : ∃ u, min (10 * n + (s[j].toNat - 48)) 1152921504606846977 = u := ⟨_, rfl⟩
      rw [hu] at hmin h4
      have hub : u ≤ 1152921504606846977 := by omega
      by_cases hbig : 115292150460684697 < u ∧ j + 1 < E
      · rw [if_pos (by rw [hjl]; exact hbig)] at h4
        obtain ⟨hb1, hb2⟩ := hbig
        have H4 := Lib.hid h4; clear h4 hjl hgj hu
        go_wp2_with fail
        go_round
        case rel => exact ⟨j + 1, 1152921504606846977, by omega, by omega, by omega, by go_num, by go_num, H4.out⟩
        case measure => simp [intOf] <;> omega
      · rw [if_neg (by rw [hjl]; exact hbig)] at h4
        have H4 := Lib.hid h4; clear h4 hjl hgj hu
        by_cases hb1 : 115292150460684697 < u
        · have hb2 : ¬ j + 1 < E := fun h => hbig ⟨hb1, h⟩
          clear hbig
          go_wp2_with fail
          go_round
          case rel => exact ⟨j + 1, u, by omega, by omega, by omega, by go_num, by go_num, H4.out⟩
          case measure => simp [intOf] <;> omega
        · clear hbig
          go_wp2_with fail
          go_round
          case rel => exact ⟨j + 1, u, by omega, by omega, by omega, by go_num, by go_num, H4.out⟩
          case measure => simp [intOf] <;> omega
    · have hKs : K < s.size := by omega
      have hg0 : ds[0]'(by omega) = s[K] := by
        have h := Hget.out 0 (by omega) (by omega)
        simpa using h
      obtain ⟨c, t, hct⟩ : ∃ c t, ds = c :: t := by
        cases ds with
        | nil => simp at hlen; omega
        | cons c t => exact ⟨c, t, rfl⟩
      have hc : s[K] = c := by rw [← hg0]; subst hct; rfl
      have hcd : isDigit c = true := Hdig.out c (by rw [hct]; simp)
      have hhead : (ds.head? = some 48) = (s[K].toNat = 48) := by
        rw [hct, hc, List.head?_cons, Option.some.injEq, eq_iff_iff, ← UInt8.toNat_inj]; rfl
      have hP : (1152921504606846976 < n ∧ 1152921504606846976 < decVal ds) ∨ (n ≤ 1152921504606846976 ∧ ¬ 1152921504606846976 < decVal ds) := by
        rcases HR.out with ⟨h1, h2, -⟩ | ⟨h1, h2⟩
        · refine .inr ⟨h2, ?_⟩
          have hjE' : j = E := by omega
          rw [hjE', ← hlen, List.take_length] at h1
          omega
        · exact .inl ⟨by omega, h2⟩
      have hbigE : s[K].toNat ≠ 48 → 19 < E - K → 1152921504606846976 < decVal ds := by
        intro h1 h2
        rw [hct]
        refine decVal_big c t hcd (by rw [← hc]; exact h1) ?_
        rw [hct, List.length_cons] at hlen; omega
      have hne : numErr ds = if s[K].toNat = 48 ∧ 1 < E - K then 8 else if 1152921504606846976 < decVal ds then 3 else 0 := by
        unfold numErr maxInteger
        simp only [hhead, hlen]
      have hcase : (j < E ∧ 1152921504606846976 < n) ∨ E ≤ j := by omega
      clear hin HR hg0 hct hcd hhead hc
      have hcf : (1152921504606846976 < n ∧ 1152921504606846976 < decVal ds) → j < E ∨ E ≤ j := fun _ => by omega
      clear hcf
      by_cases h48 : s[K].toNat = 48 ∧ 1 < E - K
      · have hb : ((s[K].toNat : Int) == 48) = true := by rw [h48.1]; rfl
        have h1 := h48.2
        rw [if_pos h48] at hne
        have Hne := Lib.hid hne
        clear hne hbigE hP h48
        rcases hcase with ⟨hq, hq2⟩ | hq
        all_goals
          go_wp2_with fail
          refine bodyPost_ret (piece_res rfl rfl (heap_alloc2_old _ _ _)) rfl ⟨by rw [Hne.out], (hf.alloc _).alloc _⟩
      · rw [if_neg h48] at hne
        have h49 : (1 < E - K ∧ ((s[K].toNat : Int) == 48) = false) ∨ ¬ 1 < E - K := by
          by_cases h : 1 < E - K
          · refine .inl ⟨h, ?_⟩
            have : s[K].toNat ≠ 48 := fun h2 => h48 ⟨h2, h⟩
            simp; omega
          · exact .inr h
        rcases hP with ⟨h2, h3⟩ | ⟨h2, h3⟩
        · rw [if_pos h3] at hne
          have Hne := Lib.hid hne
          clear hne hbigE h3 h48
          rcases hcase with ⟨hq, hq2⟩ | hq <;> rcases h49 with ⟨h5, h6⟩ | h5
          all_goals
            go_wp2_with fail
            refine bodyPost_ret (piece_res rfl rfl (heap_alloc2_old _ _ _)) rfl ⟨by rw [Hne.out], (hf.alloc _).alloc _⟩
        · rw [if_neg h3] at hne
          have h19 : ¬ 19 < E - K := fun h => by
            have : s[K].toNat ≠ 48 := fun h2 => h48 ⟨h2, by omega⟩
            exact h3 (hbigE this h)
          have Hne := Lib.hid hne
          clear hne hbigE h3 h48
          have hq : E ≤ j := by omega
          clear hcase
          rcases h49 with ⟨h5, h6⟩ | h5
          all_goals
            go_wp2_with fail
            refine bodyPost_ret (piece_res rfl rfl (heap_alloc2_old _ _ _)) rfl ⟨by rw [Hne.out], (hf.alloc _).alloc _⟩
end Go.Proofs.YtknbmnckegonlaaGreatDoor
