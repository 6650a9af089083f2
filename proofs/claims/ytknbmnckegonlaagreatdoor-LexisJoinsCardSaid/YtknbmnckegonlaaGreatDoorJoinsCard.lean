/- The law of tokens written with canonical spacing, walked. The card of the law of tokens written with canonical spacing. -/
import Derived.Test.YtknbmnckegonlaaGreatDoorLAgain
import Derived.Test.YtknbmnckegonlaaGreatDoorRefT
import Derived.Test.YtknbmnckegonlaaGreatDoorPost2
import Derived.Test.YtknbmnckegonlaaGreatDoorFrame
import Derived.Test.YtknbmnckegonlaaGreatDoorCards
import Derived.Test.YtknbmnckegonlaaGreatDoorTie
namespace Go.Proofs.YtknbmnckegonlaaGreatDoor
open Go.RowKit

set_option maxRecDepth 100000 in
set_option maxHeartbeats 4000000 in
theorem lexisJoins_any (lang : Int) (v : Value) (ts : List Tok) (w : World) (hin : TokIn w v ts) (hg : Hid (Glob w)) :
    Calls Tryz.prog 8 #[.int .i64 lang, v] w fun e w' => e = .returned (.bool true) ∧ Fr w.heap.size w w' := by
  have hin0 := hin
  obtain ⟨A, cap, hv, -, -, hl1, hl2⟩ := hin0
  have Haw := Lib.hid (awake_any w hg)
  have Hin := Lib.hid hin
  have Hfe := Lib.hid (fun w' (h : Fr w.heap.size w w') => few_any v ts w' (in_fr hin h).row hl1 hl2)
  subst hv
  clear hin hl1 hl2
  cases hfw : fewB ts with
  | false =>
    have Hb := Lib.hid hfw
    clear hfw
    go_enter Tryz.func8, Tryz.ntmps8
    go_wp2_with fail
    refine (Haw.out).mono ?_
    rintro e w1 ⟨rfl, hf⟩
    go_wp2_with (go_at_call 32; refine (Hfe.out _ hf).mono ?_; rintro e w'' ⟨rfl, rfl⟩; rw [Hb.out])
    go_ret
    exact ⟨rfl, hf⟩
  | true =>
    obtain ⟨hlt, hln⟩ := fewB_len hfw
    have Hb := Lib.hid hfw
    have Hlt := Lib.hid hlt
    clear hlt hfw
    go_enter Tryz.func8, Tryz.ntmps8
    go_wp2_with fail
    refine (Haw.out).mono ?_
    rintro e w1 ⟨rfl, hf⟩
    go_wp2_with (go_at_call 32; refine (Hfe.out _ hf).mono ?_; rintro e w'' ⟨rfl, rfl⟩; rw [Hb.out])
    refine (ownTokens_any _ ts _ (in_fr Hin.out hf).arg (by omega)).mono ?_
    rintro e w2 ⟨⟨v2, rfl, hown2⟩, hf2⟩
    have hfa := hf.trans hf2
    go_wp2_with fail
    refine (joinedText_any lang v2 ts _ (row_own hown2 rfl) (fun t ht => by have := Hlt.out t ht; omega) (by unfold maxLen; omega) (Glob.fr hg hfa)).mono ?_
    rintro e w3 ⟨rfl, hf3⟩
    have hfb := hfa.trans hf3
    clear hown2 hf2 hf3 hfa hf
    go_wp2_with fail
    refine (rJoin_any lang _ ts _ (row_fr Hin.out.row hfb) (fun t ht => by have := Hlt.out t ht; omega) (by unfold maxLen; omega)).mono ?_
    rintro e w4 ⟨rfl, hf4⟩
    go_wp2_with fail
    go_ret
    exact ⟨rfl, hfb.trans hf4⟩
end Go.Proofs.YtknbmnckegonlaaGreatDoor
namespace Go.Proofs.YtknbmnckegonlaaGreatDoor.lexisJoins
open Go.ChangeShapes Go.WideShapes Go.ChangeAt Go.RowKit
open Go.ChangeMaps (open_string shut_string)

set_option maxRecDepth 100000 in
theorem contract (H : Type) (enc : TypeId × Value → H) (W : World) (base : Nat) (args : Array Value) (ds gs : List (DataW H)) (before : List MemPlace)
    (hval : ∀ (j : Nat) t v, Tryz.f8.params[j]? = some t → args[j]? = some v → Value.okWide Tryz.prog W .any base t v)
    (hW : DataW.Whole enc Tryz.prog Tryz.f8.params.toList Rows.lexisJoinsSpec.vars false W args.toList ds gs before) (hG : Glob W) :
    Calls Tryz.prog 8 args W fun e W' => ∃ v, e = .returned v ∧ Rows.lexisJoinsSpec.post enc Tryz.prog Tryz.f8 false true false false W args v W' := by
  have hW' := hW
  obtain ⟨p, q, hA0, hV, rfl, hfz, hnd⟩ := hW
  have hA : DataW.TrodAll enc Tryz.prog W 0 (fun _ => true) true Tryz.f8.params.toList args.toList ds p := hA0
  rw [Tryz.params8] at hA hval
  obtain ⟨v0, vs0, d0, ds0, p0, q0, hargs, rfl, rfl, h0, r0⟩ := trodAll_cons hA
  obtain ⟨v1, vs1, d1, ds1, p1, q1, rfl, rfl, rfl, h1, r1⟩ := trodAll_cons r0
  obtain ⟨rfl, rfl, rfl⟩ := trodAll_nil r1
  obtain rfl : args = #[v0, v1] := by cases args; simp_all
  obtain ⟨rfl, rfl⟩ := trodVars_none hV
  obtain ⟨a0, rfl, rfl, rfl, w0⟩ := open_int Tryz.underlying3 (hval 0 3 v0 rfl rfl) h0
  obtain ⟨ts, hts⟩ := open_tokens (hval 1 33 v1 rfl rfl) h1
  clear hA0
  simp only [List.append_nil] at hW'
  have hlt : ∀ x ∈ p1, x.block < W.heap.size := fun x hx => hW'.lt x (by simpa using hx)
  refine (lexisJoins_any a0 v1 ts W hts (Lib.hid hG)).mono fun e W' ⟨he, hg⟩ => ?_
  subst he
  refine ⟨_, rfl, law_post2 (by kernel_rfl) rfl rfl hW' ?_ hg.2⟩
  have h := trodAll_cons_mk (shut_int Tryz.underlying3 w0) (trodAll_cons_mk (Below.trod laidOut (by kernel_rfl) (of_decide_eq_true (by kernel_rfl)) h1 hg.2 hlt) trodAll_mk0)
  rw [List.append_nil] at h
  exact h

theorem reads (os : Os) {H : Type} (enc : TypeId × Value → H) : ∃ places, DataW.whole enc Tryz.prog ((laidWorld os).forCall (fun _ _ => 0) ⟨#[], #[.int .i64 0, .slice none 0 0], []⟩).memory Tryz.f8.params.toList Rows.lexisJoinsSpec.vars false #[Value.int .i64 0, .slice none 0 0].toList 8 = some ([.lit (.int .i64 0), .nil], [], places) :=
  ⟨[], by kernel_rfl⟩

set_option maxRecDepth 100000 in
theorem lifted (os : Os) (started : os.Started) (H : Type) (enc : TypeId × Value → H) (F : Stop.Interp) :
    ReturnsInHanded {} Tryz.checked os 8 .any ((OpenSpec.ofChange Rows.lexisJoinsSpec).preRow enc Tryz.prog Tryz.f8 Rows.lexisJoinsRow.domain false Rows.lexisJoinsRow.laid) (((OpenSpec.ofChange Rows.lexisJoinsSpec).at F).post enc Tryz.prog Tryz.f8 false true false false) := by
  obtain ⟨places, hx⟩ := reads os enc
  refine returnsInHanded_of_row (C := Tryz.checked) (s := OpenSpec.ofChange Rows.lexisJoinsSpec) own started (by kernel_rfl) Tryz.func8
    (witness_row_atRef (enc := enc) (C := Tryz.checked) false (laidWorld os) #[.int .i64 0, .slice none 0 0] rfl (by kernel_rfl) (by kernel_rfl) (by kernel_rfl)
      (OpenSpec.preRow_of_cond 8 hx (by kernel_rfl) (fun k hk => by cases hk) (by kernel_rfl) (laid_met os _))) ?_
  intro W base args ds gs before hval hW _ _ _ hL hsh _
  exact contract H enc W base args ds gs before hval hW (glob_of hL hsh)

theorem said : Rows.LexisJoinsSaid :=
  OpenClaim.holds_of_cond 8 Tryz.f8 rfl rfl rfl rfl rfl rfl rfl ⟨rfl, rfl, rfl, rfl, rfl⟩ rfl rfl rfl rfl rfl (by kernel_rfl) Tryz.func8 (by kernel_rfl)
    (of_decide_eq_true (by kernel_rfl)) (by unfold Func.isWrapper; first | (rw [if_pos (by decide +kernel)]; kernel_rfl) | (rw [if_neg (by decide +kernel)]; exact ⟨rfl, rfl⟩))
    (fun os started H enc _ F => by rw [OpenClaim.pre_eq_preRow]; exact lifted os started H enc F)

theorem plain (f : FuncId) (fn : Func) (hf : Tryz.pinned.checked.prog.funcNamed Rows.lexisJoinsRow.func = some f) (hfn : Tryz.pinned.checked.prog.funcs[f]? = some fn) :
    true = Tryz.pinned.checked.prog.looks [] ∧ ∀ (j : Nat) t, fn.params[j]? = some t → Tryz.pinned.checked.prog.wantsStandIn t = false := by
  obtain rfl : f = 8 := Option.some.inj ((show Tryz.prog.funcNamed Rows.lexisJoinsRow.func = some 8 by kernel_rfl).symm.trans hf) |>.symm
  obtain rfl : fn = Tryz.f8 := (Option.some.inj (Tryz.func8.symm.trans hfn)).symm
  refine ⟨by kernel_rfl, fun j t ht => ?_⟩
  rw [Tryz.params8] at ht
  have hm := Array.mem_of_getElem? ht
  simp only [List.mem_toArray, List.mem_cons, List.not_mem_nil, or_false] at hm
  rcases hm with rfl | rfl
  · exact (show Tryz.prog.wantsStandIn 3 = false by kernel_rfl)
  · exact (show Tryz.prog.wantsStandIn 33 = false by kernel_rfl)

/-- The statement. -/
theorem card : Rows.LexisJoinsCardSaid :=
  Claim7.holds_tied_plain_at .later [] _ _ _ _ said (fun _ h => by cases h) (by kernel_rfl) (fun _ h => by cases h) lexisJoins_row_tie rfl ⟨rfl, rfl⟩ (by kernel_rfl) rfl plain (by kernel_rfl)
end Go.Proofs.YtknbmnckegonlaaGreatDoor.lexisJoins
