/- Contracts on bits and octets between apostrophes, and on numbers. -/
import Derived.Test.YtfmpcchlpplanaaGreatDoorQuoted
import Derived.Test.YtfmpcchlpplanaaGreatDoorListed
namespace Go.Proofs.YtfmpcchlpplanaaGreatDoor
open Go.RowKit

theorem dropWhile_all {p : UInt8 → Bool} : ∀ l : List UInt8, (l.dropWhile p).isEmpty = l.all p
  | [] => rfl
  | c :: t => by
    rw [List.dropWhile_cons, List.all_cons]
    by_cases h : p c = true
    · rw [if_pos h, dropWhile_all t, h, Bool.true_and]
    · have : p c = false := by simpa using h
      rw [if_neg h, this]; rfl
/-- Does a string consist of the characters of another one? Does it begin with another one? -/
def consB (s cs : ByteArray) : Bool := s.data.toList.all (cs.data.toList.contains ·)
def preB (s p : ByteArray) : Bool := Lib.hasPrefix s.data.toList p.data.toList
theorem hasPrefix_any (s p : ByteArray) (w : World) : Calls Tryz.prog 87 #[.string s, .string p] w fun e w' => e = .returned (.bool (preB s p)) ∧ w = w' :=
  same_sym (Tryz.strings_HasPrefix s p w)
theorem consistsOf_any (s cs : ByteArray) (hcs : cs.size < 1000) (hascii : ∀ b ∈ cs.data.toList, b.toNat < 128) (w : World) :
    Calls Tryz.prog 110 #[.string s, .string cs] w fun e w' => e = .returned (.bool (consB s cs)) ∧ Below w.heap.size w w' := by
  have h1 : cs.size < 4294967281 := by omega
  have h2 : ∀ (j : Nat) (b : UInt8), cs.data.toList[j]? = some b → b.toNat < 128 := fun j b h => hascii b (List.mem_of_getElem? h)
  go_enter Tryz.func110, Tryz.ntmps110
  go_wp2_with (go_at_call 119; refine (Tryz.strings_TrimLeft_laid _ _ _ h1 h2).mono ?_; rintro e w' ⟨rfl, hbel⟩)
  go_ret
  exact ⟨ret_bool (by rw [Lib.trimLeftS, dropWhile_all]; rfl), hbel⟩

theorem preB_one (b : ByteArray) (c : UInt8) : b.data.toList.head? = some c ↔ preB b ⟨#[c]⟩ = true := by
  unfold preB Lib.hasPrefix
  cases b.data.toList with
  | nil => simp
  | cons x t => simp; exact eq_comm
theorem digitsKind_any (lang : Int) (hlang : lang = 0 ∨ lang = 1) (d b : ByteArray) (w : World) (hm : d.size ≤ 10000) :
    Calls Tryz.prog 93 #[.int .i64 lang, .string d, .string b] w fun e w' => e = .returned (.int .i64 (digitsKind lang d.data.toList b.data.toList)) ∧ Fr w.heap.size w w' := by
  have hf := Fr.self w
  have k66 := preB_one b 66
  have k72 := preB_one b 72
  have k79 := preB_one b 79
  have kb : d.data.toList.all isBit = consB d ⟨#[48, 49]⟩ := by
    unfold consB; congr 1; funext c; rw [Bool.eq_iff_iff]; simp [isBit, ← UInt8.toNat_inj]
  have kh : d.data.toList.all isHexa = consB d ⟨#[48, 49, 50, 51, 52, 53, 54, 55, 56, 57, 65, 66, 67, 68, 69, 70]⟩ := by
    unfold consB; congr 1; funext c; rw [Bool.eq_iff_iff]; simp [isHexa, ← UInt8.toNat_inj]; omega
  have hv : digitsKind lang d.data.toList b.data.toList = if preB b ⟨#[66]⟩ = true ∧ consB d ⟨#[48, 49]⟩ = true then 4
      else if lang = 0 ∧ preB b ⟨#[72]⟩ = true ∧ consB d ⟨#[48, 49, 50, 51, 52, 53, 54, 55, 56, 57, 65, 66, 67, 68, 69, 70]⟩ = true then 5
      else if lang = 1 ∧ preB b ⟨#[79]⟩ = true ∧ consB d ⟨#[48, 49, 50, 51, 52, 53, 54, 55, 56, 57, 65, 66, 67, 68, 69, 70]⟩ = true ∧ d.size % 2 = 0 then 5 else -1 := by
    unfold digitsKind; simp only [k66, k72, k79, kb, kh, ba_size]
  clear k66 k72 k79 kb kh
  have Hv := Lib.hid hv; clear hv
  rcases hlang with rfl | rfl
  · rcases h66 : preB b ⟨#[66]⟩ <;> rcases h01 : consB d ⟨#[48, 49]⟩ <;> rcases h72 : preB b ⟨#[72]⟩ <;> rcases hx : consB d ⟨#[48, 49, 50, 51, 52, 53, 54, 55, 56, 57, 65, 66, 67, 68, 69, 70]⟩
    all_goals
      go_enter Tryz.func93, Tryz.ntmps93
      go_wp2_with (first | (go_at_call 87; refine (hasPrefix_any _ _ _).mono ?_; rintro e w' ⟨rfl, rfl⟩) | (go_at_call 110; refine (carry (consistsOf_any _ _ (by decide) (by decide) _) (by assumption)).mono ?_; rintro e w' ⟨rfl, hf⟩))
      go_ret
      refine ⟨ret_int ?_, by assumption⟩
      rw [Hv.out]; simp [h66, h01, h72, hx]
  · rcases h66 : preB b ⟨#[66]⟩ <;> rcases h01 : consB d ⟨#[48, 49]⟩ <;> rcases h79 : preB b ⟨#[79]⟩ <;> rcases hx : consB d ⟨#[48, 49, 50, 51, 52, 53, 54, 55, 56, 57, 65, 66, 67, 68, 69, 70]⟩ <;> rcases Nat.mod_two_eq_zero_or_one d.size with hp | hp
    all_goals
      have hpar : ((d.size : Int) % 2 == 0) = decide (d.size % 2 = 0) := by rw [Bool.eq_iff_iff]; simp; omega
      rw [hp] at hpar
      have Hp := Lib.hid hp; clear hp
      go_enter Tryz.func93, Tryz.ntmps93
      go_wp2_with (first | (go_at_call 87; refine (hasPrefix_any _ _ _).mono ?_; rintro e w' ⟨rfl, rfl⟩) | (go_at_call 110; refine (carry (consistsOf_any _ _ (by decide) (by decide) _) (by assumption)).mono ?_; rintro e w' ⟨rfl, hf⟩))
      go_ret
      refine ⟨ret_int ?_, by assumption⟩
      rw [Hv.out]; simp [h66, h01, h79, hx, Hp.out]

theorem digitsKind_is (lang : Int) (hlang : lang = 0 ∨ lang = 1) (d b : ByteArray) (k : Int) (hk : Hid (digitsKind lang d.data.toList b.data.toList = k)) (w : World) (hm : d.size ≤ 10000) :
    Calls Tryz.prog 93 #[.int .i64 lang, .string d, .string b] w fun e w' => e = .returned (.int .i64 k) ∧ Fr w.heap.size w w' :=
  (digitsKind_any lang hlang d b w hm).mono fun _ _ h => ⟨by rw [h.1, hk.out], h.2⟩
set_option maxRecDepth 100000 in
theorem digitsPiece_any (lang : Int) (hlang : lang = 0 ∨ lang = 1) (s : ByteArray) (l : List UInt8) (hs : s.data.toList = l) (w : World) (hm : s.size ≤ 10000) (h0 : 0 < s.size) :
    Calls Tryz.prog 69 #[.int .i64 lang, .string s] w fun e w' => e = .returned (.tuple #[.int .i64 (digitsPiece lang l).kind, .int .i64 (digitsPiece lang l).len, .int .i64 (digitsPiece lang l).err]) ∧ Fr w.heap.size w w' := by
  have hf := Fr.self w
  have hx : (s.extract 1 s.size).size ≤ 10000 := by rw [ba_size, ba_drop hs, List.length_drop]; have := ba_len hs; omega
  have hdr := ba_drop hs 1
  rcases hcl : closeAt 39 (l.drop 1) with _ | n
  · have Hcl := Lib.hid hcl; clear hcl
    have Hs := Lib.hid hs; have Hdr := Lib.hid hdr; clear hs hdr
    go_enter Tryz.func69, Tryz.ntmps69
    go_wp2_with (go_at_call 92; refine (closingMark_none _ _ Hdr.out 39 (by decide) (by decide) Hcl.out _ hx).mono ?_; rintro e w' ⟨rfl, rfl⟩)
    go_ret3
    refine ⟨?_, by assumption⟩
    rw [digitsPiece, Hcl.out]; rfl
  · have hn := closeAt_lt _ _ _ hcl
    rw [List.length_drop, ← ba_len hs] at hn
    have Hcl := Lib.hid hcl; clear hcl
    by_cases hbig : 200 < n
    · have Hs := Lib.hid hs; have Hdr := Lib.hid hdr; clear hs hdr
      go_enter Tryz.func69, Tryz.ntmps69
      go_wp2_with (go_at_call 92; refine (closingMark_some _ _ Hdr.out 39 (by decide) (by decide) n Hcl.out _ hx).mono ?_; rintro e w' ⟨rfl, rfl⟩)
      go_ret3
      refine ⟨?_, by assumption⟩
      rw [digitsPiece, Hcl.out]; simp only [if_pos hbig]; rfl
    · obtain ⟨kd, hkd⟩ : ∃ kd, digitsKind lang ((l.drop 1).take n) (l.drop (n + 2)) = kd := ⟨_, rfl⟩
      have hk : digitsKind lang (s.extract 1 (1 + n)).data.toList (s.extract (n + 2) s.size).data.toList = kd := by
        rw [ba_cut hs, ba_drop hs, Nat.add_sub_cancel_left]; exact hkd
      have Hkd := Lib.hid hkd; have Hk := Lib.hid hk; clear hkd hk
      have hxx : (s.extract 1 (1 + n)).size ≤ 10000 := by rw [ba_size, ba_cut hs, List.length_take]; omega
      have Hs := Lib.hid hs; have Hdr := Lib.hid hdr; clear hs hdr
      have hfd : Fr w.heap.size w w.drew := hf.drew
      by_cases hn1 : kd = -1
      all_goals
        have hb : (kd == -1) = decide (kd = -1) := rfl
        first | rw [decide_eq_true hn1] at hb | rw [decide_eq_false hn1] at hb
        have Hn1 := Lib.hid hn1; clear hn1
        go_enter Tryz.func69, Tryz.ntmps69
        go_wp2_with (go_at_call 92; refine (closingMark_some _ _ Hdr.out 39 (by decide) (by decide) n Hcl.out _ hx).mono ?_; rintro e w' ⟨rfl, rfl⟩)
        have b1 : (1 : Int) + n ≤ s.size := by omega
        have b2 : (n : Int) + 2 ≤ s.size := by omega
        have b3 : (0 : Int) ≤ 1 + n := by omega
        have b4 : (0 : Int) ≤ n + 2 := by omega
        have w1 : IntKind.i64.wrap (1 + (n : Int)) = 1 + n := IntWalk.i64_in _ (by omega)
        have w2 : IntKind.i64.wrap ((n : Int) + 2) = n + 2 := IntWalk.i64_in _ (by omega)
        have sl1 := fun W => run_slice_string (P := Tryz.prog) (w := W) 9 s .i64 .i64 1 (1 + (n : Int)) Tryz.underlying9 (by omega) (by omega) (by omega)
        have t1 : ((1 : Int) + n).toNat = 1 + n := by omega
        have t2 : ((n : Int) + 2).toNat = n + 2 := by omega
        go_still_tail 9, (by kernel_rfl)
        clear w1 w2 sl1 t1 t2
        change wpList _ _ _ _ _ w.drew
        go_wp2_with (go_at_call 93; refine (carryF (digitsKind_is _ hlang _ _ kd Hk _ hxx) hfd).mono ?_; rintro e w' ⟨rfl, hf'⟩)
        go_ret3
        refine ⟨?_, by assumption⟩
        rw [digitsPiece, Hcl.out]
        simp only [if_neg hbig, Hkd.out]
        first | rw [if_pos Hn1.out]; rfl | rw [if_neg Hn1.out]; rfl
end Go.Proofs.YtfmpcchlpplanaaGreatDoor
