/- The contract on the piece with which the rest of a text begins. -/
import Derived.Test.YtfmpcchlpplanaaGreatDoorComment
import Derived.Test.YtfmpcchlpplanaaGreatDoorSymbol
import Derived.Test.YtfmpcchlpplanaaGreatDoorNumber
namespace Go.Proofs.YtfmpcchlpplanaaGreatDoor
open Go.RowKit

def p1Value (p : P1) : Value := .tuple #[.int .i64 p.kind, .int .i64 p.len, .int .i64 p.err]
theorem pieceOf_any (lang : Int) (hlang : lang = 0 ∨ lang = 1) (s : ByteArray) (c : UInt8) (t : List UInt8) (hs : s.data.toList = c :: t) (w : World) (hm : s.size ≤ 10000) (hg : Hid (Glob w)) :
    Calls Tryz.prog 48 #[.int .i64 lang, .string s] w fun e w' => e = .returned (p1Value (pieceOf lang (c :: t))) ∧ Fr w.heap.size w w' := by
  have hf := Fr.self w
  obtain ⟨h0, hc0, -⟩ := ba_at hs 0 (c := c) (t := t) rfl
  have hv := pieceOf.eq_2 lang c t
  have hbc : ∀ W, _ := fun W => (beginsComment_any lang hlang s _ hs W)
  have hcl : ∀ W, _ → _ → _ := fun W (h : begins lang (c :: t) = true) (h' : Hid (Glob W)) => commentLength_any lang hlang s _ hs h W hm h'
  have hwp : ∀ W, _ → _ → _ := fun W (h : isLetter c = true) (h' : Hid (Glob W)) => wordPiece_any lang hlang s c t hs h W hm h'
  have hnp : ∀ W, _ → _ → _ := fun W (h : isDigit c = true) (h' : Hid (Glob W)) => numberPiece_any s c t hs h W hm h'
  have hcp := fun W => charsPiece_any s _ hs W hm h0
  have hdp := fun W => digitsPiece_any lang hlang s _ hs W hm h0
  have hyp : ∀ W, _ → _ := fun W (h' : Hid (Glob W)) => symbolPiece_any lang hlang s _ hs W hm h'
  have k1 : isSpace s[0] = isSpace c := by rw [hc0]
  have k2 : isLetter s[0] = isLetter c := by rw [hc0]
  have k3 : isDigit s[0] = isDigit c := by rw [hc0]
  have k4 : ((s[0].toNat : Int) == 34) = decide (c.toNat = 34) := by rw [hc0, Bool.eq_iff_iff]; simp; omega
  have k5 : ((s[0].toNat : Int) == 39) = decide (c.toNat = 39) := by rw [hc0, Bool.eq_iff_iff]; simp; omega
  have Hs := Lib.hid hs
  clear hs hc0
  rcases hsp : isSpace c with _ | _
  · rw [hsp, if_neg (by decide)] at hv
    rw [hsp] at k1
    rcases hbg : begins lang (c :: t) with _ | _
    · rw [hbg, if_neg (by decide)] at hv
      rw [hbg] at hbc
      rcases hlt : isLetter c with _ | _
      · rw [hlt, if_neg (by decide)] at hv
        rw [hlt] at k2
        rcases hdg : isDigit c with _ | _
        · rw [hdg, if_neg (by decide)] at hv
          rw [hdg] at k3
          by_cases h34 : c.toNat = 34
          · rw [if_pos h34] at hv
            rw [decide_eq_true h34] at k4
            have Hv := Lib.hid hv; have Hbc := Lib.hid hbc; have Hcl := Lib.hid hcl; have Hwp := Lib.hid hwp; have Hnp := Lib.hid hnp; have Hcp := Lib.hid hcp; have Hdp := Lib.hid hdp; have Hyp := Lib.hid hyp; clear hv hbc hcl hwp hnp hcp hdp hyp
            clear h34 hdg hlt hbg hsp k5
            go_enter Tryz.func48, Tryz.ntmps48
            go_wp2_with (first | (go_at_call 62; refine (isSpace_any _ _).mono ?_; rintro e w' ⟨rfl, rfl⟩) | (go_at_call 63; refine (Hbc.out _).mono ?_; rintro e w' ⟨rfl, rfl⟩) | (go_at_call 21; refine (isLetter_any _ _).mono ?_; rintro e w' ⟨rfl, rfl⟩) | (go_at_call 66; refine (isDigit_any _ _).mono ?_; rintro e w' ⟨rfl, rfl⟩) | (go_at_call 68; refine (Hcp.out _).mono ?_; rintro e w' ⟨rfl, rfl⟩))
            go_ret3
            exact ⟨by rw [Hv.out]; rfl, by assumption⟩
          · rw [if_neg h34] at hv
            rw [decide_eq_false h34] at k4
            by_cases h39 : c.toNat = 39
            · rw [if_pos h39] at hv
              rw [decide_eq_true h39] at k5
              have Hv := Lib.hid hv; have Hbc := Lib.hid hbc; have Hcl := Lib.hid hcl; have Hwp := Lib.hid hwp; have Hnp := Lib.hid hnp; have Hcp := Lib.hid hcp; have Hdp := Lib.hid hdp; have Hyp := Lib.hid hyp; clear hv hbc hcl hwp hnp hcp hdp hyp
              clear h34 h39 hdg hlt hbg hsp
              go_enter Tryz.func48, Tryz.ntmps48
              go_wp2_with (first | (go_at_call 62; refine (isSpace_any _ _).mono ?_; rintro e w' ⟨rfl, rfl⟩) | (go_at_call 63; refine (Hbc.out _).mono ?_; rintro e w' ⟨rfl, rfl⟩) | (go_at_call 21; refine (isLetter_any _ _).mono ?_; rintro e w' ⟨rfl, rfl⟩) | (go_at_call 66; refine (isDigit_any _ _).mono ?_; rintro e w' ⟨rfl, rfl⟩) | (go_at_call 69; refine (Hdp.out _).mono ?_; rintro e w' ⟨rfl, hf'⟩))
              go_ret3
              exact ⟨by rw [Hv.out]; rfl, by assumption⟩
            · rw [if_neg h39] at hv
              rw [decide_eq_false h39] at k5
              have Hv := Lib.hid hv; have Hbc := Lib.hid hbc; have Hcl := Lib.hid hcl; have Hwp := Lib.hid hwp; have Hnp := Lib.hid hnp; have Hcp := Lib.hid hcp; have Hdp := Lib.hid hdp; have Hyp := Lib.hid hyp; clear hv hbc hcl hwp hnp hcp hdp hyp
              clear h34 h39 hdg hlt hbg hsp
              go_enter Tryz.func48, Tryz.ntmps48
              go_wp2_with (first | (go_at_call 62; refine (isSpace_any _ _).mono ?_; rintro e w' ⟨rfl, rfl⟩) | (go_at_call 63; refine (Hbc.out _).mono ?_; rintro e w' ⟨rfl, rfl⟩) | (go_at_call 21; refine (isLetter_any _ _).mono ?_; rintro e w' ⟨rfl, rfl⟩) | (go_at_call 66; refine (isDigit_any _ _).mono ?_; rintro e w' ⟨rfl, rfl⟩) | (go_at_call 70; refine (Hyp.out _ hg).mono ?_; rintro e w' ⟨rfl, rfl⟩))
              go_ret3
              exact ⟨by rw [Hv.out]; rfl, by assumption⟩
        · rw [hdg, if_pos rfl] at hv
          rw [hdg] at k3
          have Hv := Lib.hid hv; have Hbc := Lib.hid hbc; have Hcl := Lib.hid hcl; have Hwp := Lib.hid hwp; have Hnp := Lib.hid hnp; have Hcp := Lib.hid hcp; have Hdp := Lib.hid hdp; have Hyp := Lib.hid hyp; clear hv hbc hcl hwp hnp hcp hdp hyp
          have Hdg := Lib.hid hdg; clear hdg hlt hbg hsp k4 k5
          go_enter Tryz.func48, Tryz.ntmps48
          go_wp2_with (first | (go_at_call 62; refine (isSpace_any _ _).mono ?_; rintro e w' ⟨rfl, rfl⟩) | (go_at_call 63; refine (Hbc.out _).mono ?_; rintro e w' ⟨rfl, rfl⟩) | (go_at_call 21; refine (isLetter_any _ _).mono ?_; rintro e w' ⟨rfl, rfl⟩) | (go_at_call 66; refine (isDigit_any _ _).mono ?_; rintro e w' ⟨rfl, rfl⟩) | (go_at_call 67; refine (Hnp.out _ Hdg.out hg).mono ?_; rintro e w' ⟨rfl, hf'⟩))
          go_ret3
          exact ⟨by rw [Hv.out]; rfl, by assumption⟩
      · rw [hlt, if_pos rfl] at hv
        rw [hlt] at k2
        have Hv := Lib.hid hv; have Hbc := Lib.hid hbc; have Hcl := Lib.hid hcl; have Hwp := Lib.hid hwp; have Hnp := Lib.hid hnp; have Hcp := Lib.hid hcp; have Hdp := Lib.hid hdp; have Hyp := Lib.hid hyp; clear hv hbc hcl hwp hnp hcp hdp hyp
        have Hlt := Lib.hid hlt; clear hlt hbg hsp k3 k4 k5
        go_enter Tryz.func48, Tryz.ntmps48
        go_wp2_with (first | (go_at_call 62; refine (isSpace_any _ _).mono ?_; rintro e w' ⟨rfl, rfl⟩) | (go_at_call 63; refine (Hbc.out _).mono ?_; rintro e w' ⟨rfl, rfl⟩) | (go_at_call 21; refine (isLetter_any _ _).mono ?_; rintro e w' ⟨rfl, rfl⟩) | (go_at_call 66; refine (isDigit_any _ _).mono ?_; rintro e w' ⟨rfl, rfl⟩) | (go_at_call 65; refine (Hwp.out _ Hlt.out hg).mono ?_; rintro e w' ⟨rfl, n, rfl⟩))
        go_ret3
        exact ⟨by rw [Hv.out]; rfl, hf.drewN _⟩
    · rw [hbg, if_pos rfl] at hv
      rw [hbg] at hbc
      rcases hcv : commentLen lang (c :: t) with _ | n
      all_goals
        rw [hcv] at hv hcl
        simp only [enclRes] at hcl
        have Hv := Lib.hid hv; have Hbc := Lib.hid hbc; have Hcl := Lib.hid hcl; have Hwp := Lib.hid hwp; have Hnp := Lib.hid hnp; have Hcp := Lib.hid hcp; have Hdp := Lib.hid hdp; have Hyp := Lib.hid hyp; clear hv hbc hcl hwp hnp hcp hdp hyp
        have Hbg := Lib.hid hbg; clear hbg hsp k2 k3 k4 k5 hcv
        go_enter Tryz.func48, Tryz.ntmps48
        go_wp2_with (first | (go_at_call 62; refine (isSpace_any _ _).mono ?_; rintro e w' ⟨rfl, rfl⟩) | (go_at_call 63; refine (Hbc.out _).mono ?_; rintro e w' ⟨rfl, rfl⟩) | (go_at_call 64; refine (Hcl.out _ Hbg.out hg).mono ?_; rintro e w' ⟨rfl, n, rfl⟩))
        go_ret3
        exact ⟨by rw [Hv.out]; rfl, hf.drewN _⟩
  · rw [hsp, if_pos rfl] at hv
    rw [hsp] at k1
    have Hv := Lib.hid hv; have Hbc := Lib.hid hbc; have Hcl := Lib.hid hcl; have Hwp := Lib.hid hwp; have Hnp := Lib.hid hnp; have Hcp := Lib.hid hcp; have Hdp := Lib.hid hdp; have Hyp := Lib.hid hyp; clear hv hbc hcl hwp hnp hcp hdp hyp
    clear hsp k2 k3 k4 k5
    go_enter Tryz.func48, Tryz.ntmps48
    go_wp2_with (first | (go_at_call 62; refine (isSpace_any _ _).mono ?_; rintro e w' ⟨rfl, rfl⟩))
    go_ret3
    exact ⟨by rw [Hv.out]; rfl, by assumption⟩
end Go.Proofs.YtfmpcchlpplanaaGreatDoor
