/- The reference's tree of a constraint's nodes: IsLimits. The reference's error of a type of whole numbers: shapes, names. -/
import Derived.Test.YtgdedcdjfljcnaaGreatDoorM15
import Derived.Deep.CutBlock
import Derived.Test.YtgdedcdjfljcnaaGreatDoorM21
namespace Go.Proofs.YtgdedcdjfljcnaaGreatDoor
open Go.RowKit

theorem lim_step {l : List LN} {m : Nat} {x : LN} {bs : List Int} {nx : Int} (hx : l[m]? = some x) (hn : nodeB x = true) (h : backL bs x.args.reverse (m : Int) = some nx) : limGo (l.drop m) (m : Int) bs = limGo (l.drop (m + 1)) ((m : Int) + 1) (bs ++ [nx]) := by
  obtain ⟨hm, e⟩ := List.getElem?_eq_some_iff.1 hx
  rw [List.drop_eq_getElem_cons hm, e, limGo, if_pos hn, h]
theorem take_rev {args : List Int} {j : Nat} {a : Int} (h : args[j]? = some a) : (args.take (j + 1)).reverse = a :: (args.take j).reverse := by
  rw [List.take_add_one, h, List.reverse_append]; rfl
theorem back_step {bs : List Int} {args : List Int} {j : Nat} {a nx b : Int} (h : args[j]? = some a) (h0 : nx ≠ 0) (ha : a = nx - 1) (hb : bs[(nx - 1).toNat]? = some b) : backL bs (args.take (j + 1)).reverse nx = backL bs (args.take j).reverse b := by
  rw [take_rev h, backL, if_neg (by rintro (h | h) <;> simp_all), List.getD_eq_getElem?_getD, hb]; rfl
/-- How many operands a node of a kind has, at least and at most. -/
def lmB (k : Int) : Int × Int := if k = 2 ∨ k = 3 then (1, 1) else if k = 4 ∨ k = 5 ∨ k = 6 then (2, 2) else if k = 7 then (1, 2) else (0, 0)
def cleanB (k lo hi : Int) (t : List UInt8) : Bool := (k == 0 || (lo == 0 && hi == 0)) && (k == 1 || t == [])
theorem nodeB_of {k lo hi a b : Int} {t : List UInt8} {args : List Int} (hab : lmB k = (a, b)) (hk : 0 ≤ k ∧ k ≤ 7) (hl : a ≤ (args.length : Int) ∧ (args.length : Int) ≤ b) (hc : cleanB k lo hi t = true) : nodeB ⟨k, lo, hi, t, args⟩ = true := by
  unfold lmB at hab
  unfold cleanB at hc
  unfold nodeB
  have h8 : k = 0 ∨ k = 1 ∨ k = 2 ∨ k = 3 ∨ k = 4 ∨ k = 5 ∨ k = 6 ∨ k = 7 := by omega
  rcases h8 with rfl | rfl | rfl | rfl | rfl | rfl | rfl | rfl <;> simp at hab hc ⊢ <;> (obtain ⟨rfl, rfl⟩ := hab) <;> (first | omega | (simp_all; omega) | (simp_all <;> omega))
def BegIn (bs : List Int) : Prop := ∀ (j : Nat) b, bs[j]? = some b → 0 ≤ b ∧ b ≤ (j : Int)
theorem BegIn.snoc {bs : List Int} {nx : Int} {m : Nat} (h : BegIn bs) (hl : bs.length = m) (h0 : 0 ≤ nx) (h1 : nx ≤ (m : Int)) : BegIn (bs ++ [nx]) := by
  intro j b hj
  rw [List.getElem?_append] at hj
  split at hj
  · exact h j b hj
  · have h2 := (List.getElem?_eq_some_iff.1 hj).1
    rw [List.length_singleton] at h2
    have : j - bs.length = 0 := by omega
    rw [this] at hj
    simp at hj
    subst hj; omega
theorem lim_last {l : List LN} {m : Nat} {bs : List Int} (hm : l.length ≤ m) (h : bs.getLastD 0 = 0) (hg : limGo (l.drop m) (m : Int) bs = true → isLimB l = true) : isLimB l = true := hg (by rw [List.drop_eq_nil_of_le hm, limGo]; exact decide_eq_true h)
set_option maxRecDepth 100000 in
set_option maxHeartbeats 8000000 in
theorem rIsLimits {B : Nat} (l : List LN) (A : Option Addr) (ca : Nat) (w : World) (h : LimAt B w A l) (hB : B ≤ w.heap.size) (hm : l.length ≤ maxLen) (ha : ∀ x ∈ l, x.args.length ≤ 100000) :
    Calls Tryz.prog 148 #[.slice A l.length ca] w fun e w' => (∃ r, e = .returned (.bool r) ∧ (r = true → isLimB l = true)) ∧ Fr w.heap.size w w' := by
  have hm' : l.length ≤ 9223372036854775807 := hm
  have H := Lib.hid h; have Ha := Lib.hid ha
  have hf := Fr.self w
  obtain ⟨j0, hj0, hy0, hy1, hy2⟩ := info_parts int_info
  clear h hm ha
  by_cases hz : l.length = 0
  · have Hv : Hid (isLimB l = true) := by unfold isLimB Hid; rw [if_pos hz]
    generalize l.length = n at *
    subst hz
    go_enter Tryz.func148, Tryz.ntmps148
    go_wp2_with fail
    go_ret
    exact ⟨⟨true, rfl, fun _ => Hv.out⟩, hf⟩
  by_cases hbig : 20 < l.length
  · have hbI : (20 : Int) < l.length := by omega
    go_enter Tryz.func148, Tryz.ntmps148
    go_wp2_with fail
    go_ret
    exact ⟨⟨false, rfl, fun h => by cases h⟩, hf⟩
  have hl20 : l.length ≤ 20 := by omega
  have hlI : ¬ (20 : Int) < l.length := by omega
  have Hv0 : Hid (limGo (l.drop 0) ((0 : Nat) : Int) [] = true → isLimB l = true) := fun h => by unfold isLimB; rw [if_neg hz, if_neg hbig]; exact h
  have hz0 : ¬ (l.length : Int) = 0 := by omega
  clear hz hbig
  go_enter Tryz.func148, Tryz.ntmps148
  go_wp2_with fail
  go_loopw [3, 4] (fun u i wr => ∃ (m : Nat) (bs : List Int), m ≤ l.length ∧ i = .int .i64 m ∧ wr.ownsRow w.heap.size 3 1 u bs.length (intCells bs) ∧ bs.length = m ∧ Hid (BegIn bs) ∧ Hid (limGo (l.drop m) (m : Int) bs = true → isLimB l = true) ∧ Fr w.heap.size w wr) (fun _ i _ => l.length - (intOf i).toNat)
  case atStart => exact ⟨0, [], by omega, by go_num, World.ownsRow_nil _ _ _ _, rfl, fun j b h => by simp at h, Hv0.out, hf⟩
  case round =>
    obtain ⟨m, bs, hml, rfl, hown, hbl, HI, HG, hfr⟩ := hrel
    have HO := Lib.hid hown
    have HBL := Lib.hid hbl
    have hbm : bs.length ≤ 20 := by omega
    clear hown hbl
    by_cases hlt : m < l.length
    · obtain ⟨x, hx⟩ : ∃ x, l[m]? = some x := ⟨_, List.getElem?_eq_getElem hlt⟩
      have hLw := H.out.keep (w' := wr) (hfr.2.mono hB)
      obtain ⟨b, off, rfl, -⟩ := hLw.addr hx
      obtain ⟨hbB, A2, ca2, hrep, k0, k1, k2, k3, k4⟩ := hLw.item hx
      have hxa := Ha.out x (List.mem_of_getElem? hx)
      have hmn : (0 : Int) ≤ m := by omega
      have hmm : (m : Int) < l.length := by omega
      have Hst : Hid (∀ nx, nodeB x = true → backL bs x.args.reverse (m : Int) = some nx → limGo (l.drop (m + 1)) ((m : Int) + 1) (bs ++ [nx]) = true → isLimB l = true) := fun nx hn hb hg => HG.out (by rw [lim_step hx hn hb]; exact hg)
      have Hrep := Lib.hid hrep
      clear hx hrep hLw
      obtain ⟨k, lo, hi, t, args⟩ := x
      simp only at k0 k1 k2 k3 k4 hxa
      go_upto_block 2 with fail
      have hfr1 := hfr.alloc (.cells #[.int .i64 k, .int .i64 lo, .int .i64 hi, .string ⟨t.toArray⟩, .slice A2 args.length ca2] 66)
      have hO1 := HO.out.alloc (.cells #[.int .i64 k, .int .i64 lo, .int .i64 hi, .string ⟨t.toArray⟩, .slice A2 args.length ca2] 66)
      have hk1 := fun j => cell_new wr #[.int .i64 k, .int .i64 lo, .int .i64 hi, .string ⟨t.toArray⟩, .slice A2 args.length ca2] 66 j
      have Hrep1 := Lib.hid ((Hrep.out.args).keep (((Fr.self wr).alloc (.cells #[.int .i64 k, .int .i64 lo, .int .i64 hi, .string ⟨t.toArray⟩, .slice A2 args.length ca2] 66)).2.mono (Nat.le_trans hB hfr.2.size)))
      have hsz1 : wr.heap.size < (wr.alloc (.cells #[.int .i64 k, .int .i64 lo, .int .i64 hi, .string ⟨t.toArray⟩, .slice A2 args.length ca2] 66)).heap.size := by simp
      generalize wr.alloc (.cells #[.int .i64 k, .int .i64 lo, .int .i64 hi, .string ⟨t.toArray⟩, .slice A2 args.length ca2] 66) = W1 at *
      have p0 := hk1 0; have p1 := hk1 1; have p2 := hk1 2; have p3 := hk1 3; have p4 := hk1 4
      have HO1 := Lib.hid hO1
      clear k0 k1 k2 k3 k4 hk1 HO hO1 hfr
      go_cut [6, 7] from 29 to 37 (fun s6 s7 wx => (∃ a b : Int, s6 = .int .i64 a ∧ s7 = .int .i64 b ∧ lmB k = (a, b)) ∧ wx = W1)
      case first =>
        go_wp2_with fail
        all_goals
          go_meet
          exact ⟨⟨_, _, rfl, rfl, by unfold lmB; simp_all⟩, rfl⟩
      case rest =>
        obtain ⟨⟨a, b2, rfl, rfl, hab⟩, rfl⟩ := hcut
        have Hab := Lib.hid hab
        clear hab
        obtain ⟨b0, q0⟩ : ∃ x, (k == 0) = x := ⟨_, rfl⟩
        obtain ⟨b1, q1⟩ : ∃ x, (lo == 0) = x := ⟨_, rfl⟩
        obtain ⟨b3, q2⟩ : ∃ x, (hi == 0) = x := ⟨_, rfl⟩
        obtain ⟨b4, q3⟩ : ∃ x, (k == 1) = x := ⟨_, rfl⟩
        obtain ⟨b5, q4⟩ : ∃ x, (t == []) = x := ⟨_, rfl⟩
        have q5 : t.isEmpty = b5 := by rw [← q4]; cases t <;> rfl
        have hcl : cleanB k lo hi t = ((b0 || (b1 && b3)) && (b4 || b5)) := by unfold cleanB; rw [q0, q1, q2, q3, q4]
        have Hcl := Lib.hid hcl
        clear hcl
        go_upto_region 21 with fail
        go_cut [8] from 38 to 60 (fun s8 wx => s8 = .bool (cleanB k lo hi t) ∧ wx = wc)
        case first =>
          go_wp2_with fail
          all_goals
            go_meet
            exact ⟨by rw [Hcl.out]; congr 1; simp_all, rfl⟩
        case rest =>
          obtain ⟨rfl, rfl⟩ := hcut
          have hargI : (args.length : Int) ≤ 100000 := by omega
          have Hnd : Hid ((0 ≤ k ∧ k ≤ 7) → (a ≤ (args.length : Int) ∧ (args.length : Int) ≤ b2) → cleanB k lo hi t = true → nodeB ⟨k, lo, hi, t, args⟩ = true) := nodeB_of Hab.out
          clear q0 q1 q2 q3 q4 q5 Hcl
          generalize cleanB k lo hi t = cb at *
          by_cases hk : 0 ≤ k ∧ k ≤ 7
          · by_cases hl : a ≤ (args.length : Int) ∧ (args.length : Int) ≤ b2
            · have Hw1 := Lib.hid (fun w => within_yes (n := k) (a := 0) (b := 7) w hk)
              have Hw2 := Lib.hid (fun w => within_yes (n := (args.length : Int)) (a := a) (b := b2) w hl)
              cases cb with
              | false =>
                clear hk hl Hnd
                go_wp2_with fail
                refine (Hw1.out _).mono ?_
                rintro e w' ⟨rfl, rfl⟩
                go_wp2_with fail
                refine (Hw2.out _).mono ?_
                rintro e w' ⟨rfl, rfl⟩
                go_wp2_with fail
                go_ret
                exact ⟨⟨false, rfl, fun h => by cases h⟩, hfr1⟩
              | true =>
                have Hgo := Lib.hid (fun nx hb => Hst.out nx (Hnd.out hk hl rfl) hb)
                clear Hnd Hst hk hl
                go_wp2_with fail
                refine (Hw1.out _).mono ?_
                rintro e w' ⟨rfl, rfl⟩
                go_wp2_with fail
                refine (Hw2.out _).mono ?_
                rintro e w' ⟨rfl, rfl⟩
                go_wp2_with fail
                obtain ⟨wo, hwo⟩ : ∃ x, x = wc := ⟨_, rfl⟩
                subst hwo
                go_loopw [9, 10] (fun nx kk wi => ∃ (j : Nat) (z nv : Int), j ≤ args.length ∧ kk = .int .i64 z ∧ z = (j : Int) - 1 ∧ nx = .int .i64 nv ∧ (0 ≤ nv ∧ nv ≤ (m : Int)) ∧ Hid (backL bs args.reverse (m : Int) = backL bs (args.take j).reverse nv) ∧ wi = wo) (fun _ kk _ => (intOf kk + 1).toNat)
                case atStart => exact ⟨args.length, _, _, Nat.le_refl _, rfl, rfl, rfl, ⟨by omega, by omega⟩, by rw [List.take_length]; exact Lib.hid rfl, rfl⟩
                case round =>
                  obtain ⟨j, z, nv, hj, rfl, hz, rfl, hnv, HB2, rfl⟩ := hrel
                  rcases j with _ | j
                  · have hz0 : z < 0 := by omega
                    have Hfin := Lib.hid (Hgo.out nv (HB2.out.trans (by rw [List.take_zero]; rfl)))
                    have hnews : ∀ ad, some (⟨wr.heap.size, 0, none⟩ : Addr) = some ad → ∀ j u, (intCells [nv])[j]? = some u → (wr.alloc (.cells #[.int .i64 nv] 3)).cell? (ad.add j) = some u := fun ad h j u hu => by
                      injection h with h
                      subst h
                      exact cells_new wr _ _ j u hu
                    have Hnews := Lib.hid hnews
                    have Ho1 := Lib.hid (intCells_one [nv])
                    have hszw : w.heap.size ≤ wr.heap.size := hfr1.2.size
                    clear hnews hz Hgo
                    go_wp2_with (at_builtin; refine wpList_append_opt rfl _ _ 64 rfl w.heap.size 3 j0 _ 1 8 Tryz.underlying64 hj0 hy0 hy1 hy2 rfl (by decide) _ _ _ rfl ((HO1.out).alloc _) (some ⟨wr.heap.size, 0, none⟩) 1 1 (intCells [nv]) rfl (fun h => by cases h) rfl Hnews.out Ho1.out ?d3 ?d4 ?d5 ?_)
                    case d3 => unfold maxLen; omega
                    case d4 => omega
                    case d5 => simp; omega
                    intro v4 w4 hown4 hg4 _
                    have hf4 : Fr w.heap.size w w4 := (hfr1.alloc _).grown hg4 (fun g hg => (own_lt (HO1.out) hg).1)
                    have Hown4 : Hid (w4.ownsRow w.heap.size 3 1 v4 (bs ++ [nv]).length (intCells (bs ++ [nv]))) := by
                      have hn : (bs ++ [nv]).length = bs.length + 1 := by simp
                      rw [hn, intCells_append]
                      exact hown4
                    have HI2 := Lib.hid (BegIn.snoc HI.out HBL.out hnv.1 hnv.2)
                    clear hown4 hg4
                    go_wp2_with fail
                    go_roundw
                    case rel => exact ⟨m + 1, bs ++ [nv], by omega, by go_num, Hown4.out, by simp [HBL.out], HI2, by rw [Int.natCast_add]; exact Hfin, hf4⟩
                    case measure => simp [intOf] <;> omega
                  · obtain rfl : z = (j : Int) := by omega
                    clear hz
                    obtain ⟨ar, har⟩ : ∃ ar, args[j]? = some ar := ⟨_, List.getElem?_eq_getElem (by omega)⟩
                    obtain ⟨ab, ao, rfl, -, hac⟩ := Hrep1.out.resolve_left (by rintro rfl; simp at har)
                    have kca := hac j ar har
                    have hj0 : (0 : Int) ≤ j := by omega
                    have hj1 : (j : Int) < args.length := by omega
                    by_cases hnz : nv = 0
                    · clear hac har
                      subst hnz
                      go_wp2_with fail
                      go_ret
                      exact ⟨⟨false, rfl, fun h => by cases h⟩, hfr1⟩
                    · obtain ⟨q, rfl⟩ : ∃ q : Nat, nv = (q : Int) + 1 := ⟨(nv - 1).toNat, by omega⟩
                      have hqz : ¬ ((q : Int) + 1 = 0) := hnz
                      by_cases hae : ar = (q : Int)
                      · obtain ⟨bv, hbv⟩ : ∃ bv, bs[q]? = some bv := ⟨_, List.getElem?_eq_getElem (by have := HBL.out; omega)⟩
                        obtain ⟨hb0, hb1⟩ := HI.out _ _ hbv
                        have Hstp := Lib.hid (HB2.out.trans (back_step har hnz (by omega) (by rw [show ((q : Int) + 1 - 1).toNat = q by omega]; exact hbv)))
                        rcases own_cases HO1.out with ⟨-, hn0, -⟩ | ⟨g, cap, rfl, hg0, hg, hcap, hcl⟩
                        · exfalso; have := HBL.out; omega
                        · have cb := hcl _ _ (intCells_at hbv)
                          have hq0 : (0 : Int) ≤ q := by omega
                          have hq1 : (q : Int) < (bs.length : Int) := by have := HBL.out; omega
                          clear hac har hcl hbv hnz
                          subst hae
                          go_wp2_with fail
                          go_roundw
                          case rel => first
                            | exact ⟨j, (j : Int) - 1, bv, by omega, rfl, rfl, rfl, ⟨hb0, by omega⟩, Hstp, rfl⟩
                            | exact ⟨j, (j : Int) - 1, bv, by omega, rfl, rfl, rfl, ⟨hb0, by omega⟩, Hstp, trivial⟩
                          case measure => simp [intOf] <;> omega
                      · have hbq : (ar != (q : Int)) = true := by simp [hae]
                        clear hac har hnz
                        go_wp2_with fail
                        all_goals first
                          | (exfalso; omega)
                          | (go_ret; exact ⟨⟨false, rfl, fun h => by cases h⟩, hfr1⟩)
            · have Hw1 := Lib.hid (fun w => within_yes (n := k) (a := 0) (b := 7) w hk)
              have Hw2 := Lib.hid (fun w => within_no (n := (args.length : Int)) (a := a) (b := b2) w hl)
              clear hk hl Hnd
              go_wp2_with fail
              refine (Hw1.out _).mono ?_
              rintro e w' ⟨rfl, rfl⟩
              go_wp2_with fail
              refine (Hw2.out _).mono ?_
              rintro e w' ⟨rfl, rfl⟩
              go_wp2_with fail
              go_ret
              exact ⟨⟨false, rfl, fun h => by cases h⟩, hfr1⟩
          · have Hw1 := Lib.hid (fun w => within_no (n := k) (a := 0) (b := 7) w hk)
            clear hk Hnd
            go_wp2_with (go_at_call 6; refine (Hw1.out _).mono ?_; rintro e w' ⟨rfl, rfl⟩)
            go_ret
            exact ⟨⟨false, rfl, fun h => by cases h⟩, hfr1⟩
    · obtain rfl : m = l.length := by omega
      have hbl := HBL.out
      have Hlast : Hid (bs.getLastD 0 = 0 → isLimB l = true) := fun h => lim_last (Nat.le_refl _) h HG.out
      rcases own_cases HO.out with ⟨-, hn0, -⟩ | ⟨g, cap, rfl, hg0, hg, hcap, hcl⟩
      · exfalso; omega
      · obtain ⟨lv, hlv⟩ : ∃ lv, bs[l.length - 1]? = some lv := ⟨_, List.getElem?_eq_getElem (by omega)⟩
        have cl := hcl _ _ (intCells_at hlv)
        have hgl : bs.getLastD 0 = lv := by
          rcases List.eq_nil_or_concat bs with rfl | ⟨r, b, rfl⟩
          · simp at hlv
          · rw [List.concat_eq_append] at *
            rw [List.length_append, List.length_singleton] at hbl
            rw [show l.length - 1 = r.length by omega] at hlv
            simp at hlv ⊢; exact hlv
        rw [hgl] at Hlast
        have hlI0 : (0 : Int) ≤ (l.length : Int) - 1 := by omega
        have hlI1 : (l.length : Int) - 1 < (bs.length : Int) := by omega
        have hlI2 : ((l.length : Int) - 1).toNat = l.length - 1 := by omega
        clear hcl hlv hgl HG HI hbl
        go_wp2_with fail
        go_ret
        exact ⟨⟨_, rfl, fun h => Hlast.out (by simpa using h)⟩, hfr⟩
end Go.Proofs.YtgdedcdjfljcnaaGreatDoor
namespace Go.Proofs.YtgdedcdjfljcnaaGreatDoor
open Go.RowKit
attribute [local go_sem] undef

set_option maxRecDepth 20000 in
set_option maxHeartbeats 4000000 in
theorem shapes_plain {B : Nat} (tags : List TG) (lims : List LN) (A1 A2 A3 A4 : Option Addr) (c1 c2 c3 c4 : Nat) (w : World) (h : LimAt B w A4 lims) (hB : B ≤ w.heap.size) (hm : lims.length ≤ maxLen) (ha : ∀ x ∈ lims, x.args.length ≤ 100000) :
    Calls Tryz.prog 122 #[.agg #[.int .i64 2, .string ⟨#[]⟩, .slice A1 tags.length c1, .slice A2 0 c2, .bool false, .int .i64 0, .slice A3 0 c3, .slice A4 lims.length c4]] w fun e w' => (∃ r, e = .returned (.bool r) ∧ (r = false → isLimB lims = true)) ∧ Fr w.heap.size w w' := by
  have hf := (Fr.self w).alloc (.cells #[.int .i64 2, .string ⟨#[]⟩, .slice A1 tags.length c1, .slice A2 0 c2, .bool false, .int .i64 0, .slice A3 0 c3, .slice A4 lims.length c4] 28)
  have Hl := Lib.hid (rIsLimits lims A4 c4 (w.alloc (.cells #[.int .i64 2, .string ⟨#[]⟩, .slice A1 tags.length c1, .slice A2 0 c2, .bool false, .int .i64 0, .slice A3 0 c3, .slice A4 lims.length c4] 28)) (h.keep (hf.2.mono hB)) (Nat.le_trans hB hf.2.size) hm ha)
  have Hk := Lib.hid (fun k => cell_new w #[.int .i64 2, .string ⟨#[]⟩, .slice A1 tags.length c1, .slice A2 0 c2, .bool false, .int .i64 0, .slice A3 0 c3, .slice A4 lims.length c4] 28 k)
  clear h hm ha
  go_enter Tryz.func122, Tryz.ntmps122
  go_wp2_with fail
  refine (Hl.out).mono ?_
  rintro e w1 ⟨⟨r, rfl, hr⟩, hf1⟩
  have Hr := Lib.hid hr
  clear hr
  cases r with
  | false =>
    go_wp2_with fail
    go_ret
    exact ⟨⟨true, rfl, fun h => by cases h⟩, hf.trans hf1⟩
  | true =>
    replace Hr := Lib.hid (Hr.out rfl)
    have hkk := fun k => (hf1.cell (p := ⟨w.heap.size, k, none⟩) (by simp)).trans (Hk.out k)
    have k0 := hkk 0; have k1 := hkk 1; have k2 := hkk 2; have k3 := hkk 3; have k4 := hkk 4; have k5 := hkk 5; have k6 := hkk 6; have k7 := hkk 7
    clear hkk Hk
    go_wp2_with fail
    refine wp_loop_rounds 1 ?_
    rw [rounds_succ]
    go_wp2_with fail
    go_ret
    exact ⟨⟨false, rfl, fun _ => Hr.out⟩, hf.trans hf1⟩
set_option maxRecDepth 20000 in
set_option maxHeartbeats 4000000 in
theorem names_plain (tn ln : Nat) (A1 A2 A3 A4 : Option Addr) (c1 c2 c3 c4 : Nat) (w : World) :
    Calls Tryz.prog 123 #[.agg #[.int .i64 2, .string ⟨#[]⟩, .slice A1 tn c1, .slice A2 0 c2, .bool false, .int .i64 0, .slice A3 0 c3, .slice A4 ln c4]] w fun e w' => e = .returned (.int .i64 0) ∧ Fr w.heap.size w w' := by
  have hf := (Fr.self w).alloc (.cells #[.int .i64 2, .string ⟨#[]⟩, .slice A1 tn c1, .slice A2 0 c2, .bool false, .int .i64 0, .slice A3 0 c3, .slice A4 ln c4] 28)
  have Hir := Lib.hid isRecord_two
  go_enter Tryz.func123, Tryz.ntmps123
  go_wp2_with fail
  refine wp_loop_rounds 1 ?_
  rw [rounds_succ]
  go_wp2_with fail
  refine wp_loop_rounds 1 ?_
  rw [rounds_succ]
  go_wp2_with (go_at_call 145; refine (Hir.out _).mono ?_; rintro e w' ⟨rfl, rfl⟩)
  refine wp_loop_rounds 1 ?_
  rw [rounds_succ]
  go_wp2_with (go_at_call 145; refine (Hir.out _).mono ?_; rintro e w' ⟨rfl, rfl⟩)
  refine wp_loop_rounds 1 ?_
  rw [rounds_succ]
  go_wp2_with fail
  go_ret
  exact ⟨rfl, hf⟩
end Go.Proofs.YtgdedcdjfljcnaaGreatDoor
