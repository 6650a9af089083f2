/- Contracts on the reference: where a name ends. -/
import Derived.Test.YtfmpcchlpplanaaGreatDoorListed
namespace Go.Proofs.YtfmpcchlpplanaaGreatDoor
open Go.RowKit

theorem wordCont_cons (lang : Int) (c : UInt8) (t : List UInt8) : wordCont lang (c :: t) = (isPart c || (if lang = 1 then decide (c.toNat = 95) else (decide (c.toNat = 45) && (match t with | [] => false | d :: _ => isPart d)))) := rfl
/-- Behind a hyphen a letter or a digit stands. -/
def hypOk (l : List UInt8) (k : Nat) : Prop := l[k - 1]? = some 45 → ∃ d t, l.drop k = d :: t ∧ isPart d = true
/-- Where a name ends. -/
def nameTo (lang : Int) (l : List UInt8) (K : Nat) : Nat := K + wordLen lang (l.drop K)
theorem nameEnd_any (lang : Int) (hlang : lang = 0 ∨ lang = 1) (s : ByteArray) (l : List UInt8) (hs : s.data.toList = l) (K : Nat) (w : World) (hm : s.size ≤ 10000) (hK : K < s.size) (h45 : l[K]? ≠ some 45) :
    Calls Tryz.prog 29 #[.int .i64 lang, .string s, .int .i64 K] w fun e w' => e = .returned (.int .i64 (nameTo lang l K)) ∧ w = w' := by
  have hv : nameTo lang l K = wordTail lang (l.drop (K + 1)) + (K + 1) := by
    unfold nameTo wordLen; rw [List.drop_drop]; omega
  have Hv := Lib.hid hv; have Hs := Lib.hid hs
  have H45 := Lib.hid h45; clear hv hs h45
  have hgo : ∀ (k : Nat) (h : k < s.size), l[k]? = some s[k] := by
    intro k hk
    have hk' : k < l.length := by rw [← ba_len Hs.out]; exact hk
    rw [List.getElem?_eq_getElem hk', ba_get Hs.out k hk]
  have Hgo := Lib.hid hgo; clear hgo
  rcases hlang with rfl | rfl
  · go_enter Tryz.func29, Tryz.ntmps29
    go_wp2
    go_loop [7] (fun i => ∃ k : Nat, K + 1 ≤ k ∧ k ≤ s.size ∧ i = .int .i64 k ∧ Hid (wordTail 0 (l.drop (K + 1)) + (K + 1) = wordTail 0 (l.drop k) + k) ∧ Hid (hypOk l k)) (fun i => s.size - (intOf i).toNat)
    case atStart => exact ⟨K + 1, by omega, by omega, by go_num, rfl, fun h => absurd h H45.out⟩
    case round =>
      obtain ⟨k, hk1, hk, rfl, HR, HH⟩ := hrel
      rcases hd : l.drop k with _ | ⟨c, t⟩
      · have hge := ba_end Hs.out k hd
        have Hd := Lib.hid hd; clear hd
        go_wp2_with fail
        go_ret
        exact ⟨by rw [Hv.out, HR.out, Hd.out, wordTail]; simp, rfl⟩
      · obtain ⟨hlt, hc, ht⟩ := ba_at Hs.out k hd
        have hlt1 : k - 1 < s.size := by omega
        obtain ⟨j, rfl⟩ : ∃ j, k = j + 1 := ⟨k - 1, by omega⟩
        have hj : j < s.size := by omega
        have hwj : IntKind.i64.wrap ((j : Int) + 1 - 1) = (j : Int) := by rw [show (j : Int) + 1 - 1 = (j : Int) by omega]; exact IntWalk.i64_in _ (by omega)
        have Hd := Lib.hid hd; have Ht := Lib.hid ht; clear hd ht
        cases hp : isPart c with
        | true =>
          have hc45 : c.toNat ≠ 45 := by
            intro h
            rw [isPart, isLetter, isDigit] at hp
            simp [h] at hp
          have hb : ((s[j + 1].toNat : Int) == 45) = false := by rw [hc]; simp; omega
          have hps : isPart s[j + 1] = true := by rw [hc]; exact hp
          have Hps := Lib.hid hps; have Hp := Lib.hid hp; have Hc := Lib.hid hc; clear hps hp hc hc45
          go_wp2_with (go_at_call 45; refine (rPart_any _ _).mono ?_; rintro e w' ⟨rfl, rfl⟩; rw [Hps.out])
          go_round
          case rel =>
            refine ⟨j + 2, by omega, by omega, by go_num, ?_, ?_⟩
            · unfold Hid
              rw [HR.out, Hd.out, wordTail, if_pos (by rw [wordCont_cons, Hp.out]; rfl), Ht.out]; omega
            · intro h
              rw [show j + 2 - 1 = j + 1 by omega, Hgo.out _ hlt] at h
              rw [Option.some.injEq] at h
              rw [h] at hb
              cases hb
          case measure => simp [intOf] <;> omega
        | false =>
          have hps : isPart s[j + 1] = false := by rw [hc]; exact hp
          have Hps := Lib.hid hps; have Hp := Lib.hid hp
          by_cases hc45 : c.toNat = 45
          · have hb : ((s[j + 1].toNat : Int) == 45) = true := by rw [hc]; simp; omega
            have hbj : ((s[j].toNat : Int) != 45) = true := by
              rw [bne_iff_ne]
              intro h
              have h1 : s[j] = 45 := UInt8.toNat_inj.1 (by show s[j].toNat = 45; omega)
              obtain ⟨d, r, h2, h3⟩ := HH.out (by show l[j]? = some 45; rw [Hgo.out j hj, h1])
              rw [Hd.out] at h2
              injection h2 with h4 _
              rw [h4, h3] at hp
              cases hp
            have Hc45 := Lib.hid hc45
            clear hps hp hc hc45
            rcases ht0 : t with _ | ⟨d, r⟩
            · have hge : s.size ≤ j + 1 + 1 := ba_end Hs.out _ (Ht.out.trans ht0)
              have Ht0 := Lib.hid ht0; clear ht0
              go_wp2_with (go_at_call 45; refine (rPart_any _ _).mono ?_; rintro e w' ⟨rfl, rfl⟩; rw [Hps.out])
              go_ret
              exact ⟨by rw [Hv.out, HR.out, Hd.out, wordTail, if_neg (by rw [wordCont_cons, Hp.out, Ht0.out]; simp)]; simp, rfl⟩
            · obtain ⟨hlt2, hc2, -⟩ := ba_at Hs.out (j + 1 + 1) (Ht.out.trans ht0)
              have Ht0 := Lib.hid ht0; clear ht0
              cases hpd : isPart d with
              | true =>
                have hps2 : isPart s[j + 1 + 1] = true := by rw [hc2]; exact hpd
                have Hps2 := Lib.hid hps2; have Hpd := Lib.hid hpd; clear hps2 hpd hc2
                go_wp2_with (go_at_call 45; refine (rPart_any _ _).mono ?_; rintro e w' ⟨rfl, rfl⟩; first | rw [Hps.out] | rw [Hps2.out])
                go_round
                case rel =>
                  refine ⟨j + 2, by omega, by omega, by go_num, ?_, fun _ => ⟨d, r, Ht.out.trans Ht0.out, Hpd.out⟩⟩
                  unfold Hid
                  rw [HR.out, Hd.out, wordTail, if_pos (by rw [wordCont_cons, Hp.out, Ht0.out]; simp [Hpd.out, Hc45.out]), Ht.out]; omega
                case measure => simp [intOf] <;> omega
              | false =>
                have hps2 : isPart s[j + 1 + 1] = false := by rw [hc2]; exact hpd
                have Hps2 := Lib.hid hps2; have Hpd := Lib.hid hpd; clear hps2 hpd hc2
                go_wp2_with (go_at_call 45; refine (rPart_any _ _).mono ?_; rintro e w' ⟨rfl, rfl⟩; first | rw [Hps.out] | rw [Hps2.out])
                go_ret
                exact ⟨by rw [Hv.out, HR.out, Hd.out, wordTail, if_neg (by rw [wordCont_cons, Hp.out, Ht0.out]; simp [Hpd.out])]; simp, rfl⟩
          · have hb : ((s[j + 1].toNat : Int) == 45) = false := by rw [hc]; simp; omega
            have Hc45 := Lib.hid hc45
            clear hps hp hc hc45
            go_wp2_with (go_at_call 45; refine (rPart_any _ _).mono ?_; rintro e w' ⟨rfl, rfl⟩; rw [Hps.out])
            go_ret
            exact ⟨by rw [Hv.out, HR.out, Hd.out, wordTail, if_neg (by rw [wordCont_cons, Hp.out]; simp [Hc45.out])]; simp, rfl⟩
  · go_enter Tryz.func29, Tryz.ntmps29
    go_wp2
    go_loop [7] (fun i => ∃ k : Nat, K + 1 ≤ k ∧ k ≤ s.size ∧ i = .int .i64 k ∧ Hid (wordTail 1 (l.drop (K + 1)) + (K + 1) = wordTail 1 (l.drop k) + k)) (fun i => s.size - (intOf i).toNat)
    case atStart => exact ⟨K + 1, by omega, by omega, by go_num, rfl⟩
    case round =>
      obtain ⟨k, hk1, hk, rfl, HR⟩ := hrel
      rcases hd : l.drop k with _ | ⟨c, t⟩
      · have hge := ba_end Hs.out k hd
        have Hd := Lib.hid hd; clear hd
        go_wp2_with fail
        go_ret
        exact ⟨by rw [Hv.out, HR.out, Hd.out, wordTail]; simp, rfl⟩
      · obtain ⟨hlt, hc, ht⟩ := ba_at Hs.out k hd
        have Hd := Lib.hid hd; have Ht := Lib.hid ht; clear hd ht
        cases hp : isPart c with
        | true =>
          have hps : isPart s[k] = true := by rw [hc]; exact hp
          have Hps := Lib.hid hps; have Hp := Lib.hid hp; clear hps hp hc
          go_wp2_with (go_at_call 45; refine (rPart_any _ _).mono ?_; rintro e w' ⟨rfl, rfl⟩; rw [Hps.out])
          go_round
          case rel =>
            refine ⟨k + 1, by omega, by omega, by go_num, ?_⟩
            unfold Hid
            rw [HR.out, Hd.out, wordTail, if_pos (by rw [wordCont_cons, Hp.out]; rfl), Ht.out]; omega
          case measure => simp [intOf] <;> omega
        | false =>
          have hps : isPart s[k] = false := by rw [hc]; exact hp
          have Hps := Lib.hid hps; have Hp := Lib.hid hp
          by_cases hc95 : c.toNat = 95
          · have hb : ((s[k].toNat : Int) != 95) = false := by rw [hc]; simp; omega
            have Hc95 := Lib.hid hc95
            clear hps hp hc hc95
            go_wp2_with (go_at_call 45; refine (rPart_any _ _).mono ?_; rintro e w' ⟨rfl, rfl⟩; rw [Hps.out])
            go_round
            case rel =>
              refine ⟨k + 1, by omega, by omega, by go_num, ?_⟩
              unfold Hid
              rw [HR.out, Hd.out, wordTail, if_pos (by rw [wordCont_cons, Hp.out]; simp [Hc95.out]), Ht.out]; omega
            case measure => simp [intOf] <;> omega
          · have hb : ((s[k].toNat : Int) != 95) = true := by rw [hc]; simp; omega
            have Hc95 := Lib.hid hc95
            clear hps hp hc hc95
            go_wp2_with (go_at_call 45; refine (rPart_any _ _).mono ?_; rintro e w' ⟨rfl, rfl⟩; rw [Hps.out])
            go_ret
            exact ⟨by rw [Hv.out, HR.out, Hd.out, wordTail, if_neg (by rw [wordCont_cons, Hp.out]; simp [Hc95.out])]; simp, rfl⟩
end Go.Proofs.YtfmpcchlpplanaaGreatDoor
