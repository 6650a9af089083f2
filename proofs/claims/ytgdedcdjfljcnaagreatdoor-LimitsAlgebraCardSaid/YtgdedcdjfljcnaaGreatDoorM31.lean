/- The reference's error of a constraint of whole numbers: OwnErr. -/
import Derived.Test.YtgdedcdjfljcnaaGreatDoorM26
import Derived.Test.YtgdedcdjfljcnaaGreatDoorM30
import Derived.Test.YtgdedcdjfljcnaaGreatDoorM06
import Derived.BigQuiet
namespace Go.Proofs.YtgdedcdjfljcnaaGreatDoor
open Go.RowKit
attribute [local go_sem] undef_bool undef_bool2

/-- What a node is, where OwnErr found nothing. -/
def NodeQ (l : List LN) (i : Nat) (x : LN) : Prop := ∃ v, AbV l v ∧ rStandB x.kind v = true ∧ (x.kind = 0 → v = 1 → okB ⟨x.lo, x.hi⟩ = true) ∧ (x.kind = 7 → i + 1 = l.length)
def NodesQ (l : List LN) (m : Nat) : Prop := ∀ i x, i < m → l[i]? = some x → NodeQ l i x
/-- What OwnErr returns. -/
def OErr (P : Prop) (e : Ending) : Prop := ∃ i c, e = .returned (.tuple #[.int .i64 i, .int .i64 c]) ∧ (c = 0 → P)
theorem OErr.no {P : Prop} {i c : Int} (h : c ≠ 0) : OErr P (.returned (.tuple #[.int .i64 i, .int .i64 c])) := ⟨i, c, rfl, fun h0 => absurd h0 h⟩
theorem OErr.ok {P : Prop} {i : Int} (h : P) : OErr P (.returned (.tuple #[.int .i64 i, .int .i64 0])) := ⟨i, 0, rfl, fun _ => h⟩
structure OwI (w : World) (cs : Array Value) (s : List Int) (wr : World) : Prop where
  box : ∀ k, wr.cell? ⟨w.heap.size, k, none⟩ = cs[k]?
  row : ∀ j x, s[j]? = some x → wr.cell? ⟨w.heap.size + 1 + 1, j, none⟩ = some (.int .i64 x)
  fr : Fr w.heap.size w wr
  size : w.heap.size + 1 + 1 < wr.heap.size
theorem OwI.keep {w : World} {cs : Array Value} {s : List Int} {wr w' : World} (h : OwI w cs s wr) (hf : Fr wr.heap.size wr w') : OwI w cs s w' := by
  have hz := h.size
  exact ⟨fun k => (hf.cell (p := ⟨w.heap.size, k, none⟩) (by show w.heap.size < _; omega)).trans (h.box k), fun j x hx => (hf.cell (p := ⟨w.heap.size + 1 + 1, j, none⟩) (by show w.heap.size + 1 + 1 < _; omega)).trans (h.row j x hx), h.fr.trans hf, Nat.lt_of_lt_of_le hz hf.2.size⟩
structure OwN (w : World) (cs : Array Value) (s : List Int) (g : Nat) (nc : Array Value) (wx : World) : Prop where
  own : OwI w cs s wx
  node : ∀ k, wx.cell? ⟨g, k, none⟩ = nc[k]?
  lt : g < wx.heap.size
theorem OwN.keep {w : World} {cs : Array Value} {s : List Int} {g : Nat} {nc : Array Value} {wx w' : World} (h : OwN w cs s g nc wx) (hf : Fr wx.heap.size wx w') : OwN w cs s g nc w' :=
  ⟨h.own.keep hf, fun k => (hf.cell (p := ⟨g, k, none⟩) h.lt).trans (h.node k), Nat.lt_of_lt_of_le h.lt hf.2.size⟩
/-- What the drawing regions read. -/
def OwS (w : World) (cs : Array Value) (s : List Int) (g : Nat) (nc : Array Value) (m : Nat) (v : Int) (kd lo hi : Int) (tx : ByteArray) (na : Value) (A1 A2 A3 A4 : Option Addr) (tn ln c1 c2 c3 c4 : Nat) (w' : World) : Prop :=
  Hid (OwN w cs s g nc w') ∧ w'.cell? ⟨w.heap.size + 1 + 1, m, none⟩ = some (.int .i64 v) ∧ w'.cell? ⟨g, 0, none⟩ = some (.int .i64 kd) ∧ w'.cell? ⟨g, 1, none⟩ = some (.int .i64 lo) ∧ w'.cell? ⟨g, 2, none⟩ = some (.int .i64 hi) ∧ w'.cell? ⟨g, 3, none⟩ = some (.string tx) ∧ w'.cell? ⟨g, 4, none⟩ = some na ∧
    w'.cell? ⟨w.heap.size, 0, none⟩ = some (.int .i64 2) ∧ w'.cell? ⟨w.heap.size, 1, none⟩ = some (.string ⟨#[]⟩) ∧ w'.cell? ⟨w.heap.size, 2, none⟩ = some (.slice A1 tn c1) ∧ w'.cell? ⟨w.heap.size, 3, none⟩ = some (.slice A2 0 c2) ∧ w'.cell? ⟨w.heap.size, 4, none⟩ = some (.bool false) ∧ w'.cell? ⟨w.heap.size, 5, none⟩ = some (.int .i64 0) ∧ w'.cell? ⟨w.heap.size, 6, none⟩ = some (.slice A3 0 c3) ∧ w'.cell? ⟨w.heap.size, 7, none⟩ = some (.slice A4 ln c4)
theorem owS {w : World} {s : List Int} {g m : Nat} {v kd lo hi : Int} {tx : ByteArray} {na : Value} {A1 A2 A3 A4 : Option Addr} {tn ln c1 c2 c3 c4 : Nat} {w' : World} (h : OwN w #[.int .i64 2, .string ⟨#[]⟩, .slice A1 tn c1, .slice A2 0 c2, .bool false, .int .i64 0, .slice A3 0 c3, .slice A4 ln c4] s g #[.int .i64 kd, .int .i64 lo, .int .i64 hi, .string tx, na] w') (hv : s[m]? = some v) :
    OwS w #[.int .i64 2, .string ⟨#[]⟩, .slice A1 tn c1, .slice A2 0 c2, .bool false, .int .i64 0, .slice A3 0 c3, .slice A4 ln c4] s g #[.int .i64 kd, .int .i64 lo, .int .i64 hi, .string tx, na] m v kd lo hi tx na A1 A2 A3 A4 tn ln c1 c2 c3 c4 w' :=
  ⟨h, h.own.row _ _ hv, h.node 0, h.node 1, h.node 2, h.node 3, h.node 4, h.own.box 0, h.own.box 1, h.own.box 2, h.own.box 3, h.own.box 4, h.own.box 5, h.own.box 6, h.own.box 7⟩
set_option maxRecDepth 100000 in
set_option maxHeartbeats 2000000 in
theorem rOwnErr {B : Nat} (l : List LN) (A1 A2 A3 A4 : Option Addr) (tn c1 c2 c3 c4 : Nat) (w : World) (h : LimAt B w A4 l) (hB : B ≤ w.heap.size) (hl : isLimB l = true) (hne : l ≠ []) (hal : ∀ x ∈ l, x.args.length ≤ 100000) (htx : ∀ x ∈ l, x.text.length ≤ 1000) :
    Calls Tryz.prog 42 #[.agg #[.int .i64 2, .string ⟨#[]⟩, .slice A1 tn c1, .slice A2 0 c2, .bool false, .int .i64 0, .slice A3 0 c3, .slice A4 l.length c4]] w fun e w' => OErr (NodesQ l l.length) e ∧ Fr w.heap.size w w' := by
  have hpos : 0 < l.length := by cases l <;> simp_all
  have h20 : l.length ≤ 20 := (isLimB_args hl (List.getElem?_eq_getElem hpos)).1
  obtain ⟨b, off, rfl, hbB⟩ := h.addr (List.getElem?_eq_getElem hpos)
  have hf := (Fr.self w).alloc (.cells #[.int .i64 2, .string ⟨#[]⟩, .slice A1 tn c1, .slice A2 0 c2, .bool false, .int .i64 0, .slice A3 0 c3, .slice (some ⟨b, off, none⟩) l.length c4] 28)
  have Hk := Lib.hid (fun k => cell_new w #[.int .i64 2, .string ⟨#[]⟩, .slice A1 tn c1, .slice A2 0 c2, .bool false, .int .i64 0, .slice A3 0 c3, .slice (some ⟨b, off, none⟩) l.length c4] 28 k)
  have Hab := Lib.hid about_two
  have Hao := Lib.hid (abouts_any l (some ⟨b, off, none⟩) c4 (.string ⟨#[]⟩) (.slice A1 tn c1) (.slice A2 0 c2) (.bool false) (.int .i64 0) (.slice A3 0 c3) (w.alloc (.cells #[.int .i64 2, .string ⟨#[]⟩, .slice A1 tn c1, .slice A2 0 c2, .bool false, .int .i64 0, .slice A3 0 c3, .slice (some ⟨b, off, none⟩) l.length c4] 28)) ((h.mono hB).keep hf.2) hf.2.size hl hne h20 hal)
  have Hst := Lib.hid rStands_any
  have hp0 : (0 : Int) < l.length := by omega
  have hlm : l.length ≤ 9223372036854775807 := by omega
  have Hh := Lib.hid h; have Htx := Lib.hid htx
  clear h hl hal htx
  go_enter Tryz.func42, Tryz.ntmps42
  go_wp2_with (go_at_call 67; refine (Hab.out _).mono ?_; rintro e w' ⟨rfl, rfl⟩)
  refine (Hao.out).mono ?_
  rintro e w1 ⟨rfl, Hs, hf1⟩
  obtain ⟨s, hrow, hsl, hsv⟩ := Hs.out
  have hI : OwI w #[.int .i64 2, .string ⟨#[]⟩, .slice A1 tn c1, .slice A2 0 c2, .bool false, .int .i64 0, .slice A3 0 c3, .slice (some ⟨b, off, none⟩) l.length c4] s w1 := by
    have hz : (w.alloc (.cells #[.int .i64 2, .string ⟨#[]⟩, .slice A1 tn c1, .slice A2 0 c2, .bool false, .int .i64 0, .slice A3 0 c3, .slice (some ⟨b, off, none⟩) l.length c4] 28)).heap.size = w.heap.size + 1 := by simp
    rw [hz] at hrow
    obtain ⟨v0, hv0⟩ : ∃ v, s[0]? = some v := ⟨_, List.getElem?_eq_getElem (by omega)⟩
    exact ⟨fun k => (hf1.cell (p := ⟨w.heap.size, k, none⟩) (by simp)).trans (Hk.out k), fun j x hx => hrow.1 j x hx, hf.trans hf1, cell_block (hrow.1 _ _ hv0)⟩
  have HI := Lib.hid hI; have Hsv := Lib.hid hsv
  rw [show (w.alloc (.cells #[.int .i64 2, .string ⟨#[]⟩, .slice A1 tn c1, .slice A2 0 c2, .bool false, .int .i64 0, .slice A3 0 c3, .slice (some ⟨b, off, none⟩) l.length c4] 28)).heap.size = w.heap.size + 1 by simp]
  clear hf hf1 Hk Hao hI Hs hrow hsv
  go_wp2_with fail
  go_loopw [5, 6, 7] (fun i _ _ wr => ∃ (m : Nat), m ≤ l.length ∧ i = .int .i64 m ∧ Hid (OwI w #[.int .i64 2, .string ⟨#[]⟩, .slice A1 tn c1, .slice A2 0 c2, .bool false, .int .i64 0, .slice A3 0 c3, .slice (some ⟨b, off, none⟩) l.length c4] s wr) ∧ Hid (NodesQ l m)) (fun i _ _ _ => l.length - (intOf i).toNat)
  case atStart => exact ⟨0, Nat.zero_le _, by go_num, HI, Lib.hid (fun i x hi _ => absurd hi (Nat.not_lt_zero _))⟩
  case round =>
    obtain ⟨m, hm, rfl, HI2, HN⟩ := hrel
    have hm0 : (0 : Int) ≤ m := by omega
    by_cases hlt : m < l.length
    · have hml : (m : Int) < l.length := by omega
      obtain ⟨x, hx⟩ : ∃ x, l[m]? = some x := ⟨_, List.getElem?_eq_getElem hlt⟩
      have hxm : x ∈ l := List.mem_of_getElem? hx
      obtain ⟨v, hv⟩ : ∃ v, s[m]? = some v := ⟨_, List.getElem?_eq_getElem (by omega)⟩
      have hav := Hsv.out v (List.mem_of_getElem? hv)
      obtain ⟨hbb, A, ca, hrep, n0, n1, n2, n3, n4⟩ := Hh.out.item hx
      have hbw : b < w.heap.size := Nat.lt_of_lt_of_le hbB hB
      have hfb := HI2.out.fr.2
      replace n0 := (hfb.cell (p := ⟨b, _, none⟩) hbw).trans n0
      replace n1 := (hfb.cell (p := ⟨b, _, none⟩) hbw).trans n1
      replace n2 := (hfb.cell (p := ⟨b, _, none⟩) hbw).trans n2
      replace n3 := (hfb.cell (p := ⟨b, _, none⟩) hbw).trans n3
      replace n4 := (hfb.cell (p := ⟨b, _, none⟩) hbw).trans n4
      have hts := Htx.out x hxm
      have Hend := Lib.hid (fun (h1 : rStandB x.kind v = true) (h2 : x.kind = 0 → v = 1 → okB ⟨x.lo, x.hi⟩ = true) (h3 : x.kind = 7 → m + 1 = l.length) => (fun i y hi hy => by
        by_cases e : i = m
        · subst e
          rw [hx] at hy
          cases hy
          exact ⟨v, hav, h1, h2, h3⟩
        · exact HN.out i y (by omega) hy : NodesQ l (m + 1)))
      have Hav := Lib.hid hav
      obtain ⟨kd, lo, hi, tx, args⟩ := x
      simp only at n0 n1 n2 n3 n4 hts Hend
      have p7 := HI2.out.box 7
      have hz := HI2.out.size
      clear hrep hfb hav
      go_upto_region 8 with fail
      have hI3 := HI2.out.keep ((Fr.self wr).alloc (.cells #[.int .i64 kd, .int .i64 lo, .int .i64 hi, .string ⟨tx.toArray⟩, .slice A args.length ca] 66))
      have hbx := fun k => cell_new wr #[.int .i64 kd, .int .i64 lo, .int .i64 hi, .string ⟨tx.toArray⟩, .slice A args.length ca] 66 k
      have hgz : wr.heap.size < (wr.alloc (.cells #[.int .i64 kd, .int .i64 lo, .int .i64 hi, .string ⟨tx.toArray⟩, .slice A args.length ca] 66)).heap.size := by simp
      have HI3 := Lib.hid hI3; have Hbx := Lib.hid hbx
      have b0 := hbx 0
      clear hI3 hbx n0 n1 n2 n3 n4 p7
      generalize wr.alloc (.cells #[.int .i64 kd, .int .i64 lo, .int .i64 hi, .string ⟨tx.toArray⟩, .slice A args.length ca] 66) = W1 at *
      have HN' := HN
      clear HN HI2
      go_cut [40] from 31 to 39 (fun s40 wx => wx = W1 ∧ ∃ bb : Bool, s40 = .bool bb ∧ Hid (bb = false → kd = 7 → m + 1 = l.length))
      case first =>
        obtain ⟨b7, hb7⟩ : ∃ b7, (kd == 7) = b7 := ⟨_, rfl⟩
        cases b7 with
        | false =>
          go_wp2_with fail
          go_meet
          exact ⟨rfl, false, rfl, fun _ h => absurd h (by simpa using hb7)⟩
        | true =>
          obtain ⟨bm, hbm⟩ : ∃ bm, decide ((m : Int) < (l.length : Int) - 1) = bm := ⟨_, rfl⟩
          have Hbm := Lib.hid hbm
          go_wp2_with fail
          go_meet
          exact ⟨rfl, bm, rfl, fun h _ => by
            have := Hbm.out
            rw [h] at this
            have := of_decide_eq_false this
            omega⟩
      case rest =>
        obtain ⟨rfl, bb, rfl, H7⟩ := hcut
        have hfr1 := HI3.out.fr
        cases bb with
        | true =>
          go_wp2_with fail
          go_ret2
          exact ⟨OErr.no (by decide), hfr1⟩
        | false =>
          replace H7 := Lib.hid (H7.out rfl)
          have r0 := HI3.out.row _ _ hv
          have hN : OwN w #[.int .i64 2, .string ⟨#[]⟩, .slice A1 tn c1, .slice A2 0 c2, .bool false, .int .i64 0, .slice A3 0 c3, .slice (some ⟨b, off, none⟩) l.length c4] s wr.heap.size #[.int .i64 kd, .int .i64 lo, .int .i64 hi, .string ⟨tx.toArray⟩, .slice A args.length ca] wc := ⟨HI3.out, Hbx.out, hgz⟩
          have HNo := Lib.hid hN
          have Hbx2 := Hbx
          clear hN Hbx HI3 Hbx2
          go_upto_region 10 with fail
          go_cut [49] from 42 to 48 (fun s49 wx => Hid (OwN w #[.int .i64 2, .string ⟨#[]⟩, .slice A1 tn c1, .slice A2 0 c2, .bool false, .int .i64 0, .slice A3 0 c3, .slice (some ⟨b, off, none⟩) l.length c4] s wr.heap.size #[.int .i64 kd, .int .i64 lo, .int .i64 hi, .string ⟨tx.toArray⟩, .slice A args.length ca] wx) ∧ ∃ b' : Bool, s49 = .bool b' ∧ Hid (b' = false → rStandB kd v = true))
          case first =>
            obtain ⟨rb, hrb⟩ : ∃ rb, rStandB kd v = rb := ⟨_, rfl⟩
            have Hst' := Lib.hid (fun W => (by have := rStands_any kd v W; rw [hrb] at this; exact this : Calls Tryz.prog 69 #[.int .i64 kd, .int .i64 v] W fun e w' => e = .returned (.bool rb) ∧ W = w'))
            have Hrb := Lib.hid hrb
            clear hrb
            go_quiet ((go_at_call 69; exact (Hst'.out _).mono fun e w' h => ⟨h.1, _, h.2.symm⟩))
            go_wp2_with fail
            go_meet
            exact ⟨Lib.hid (HNo.out.keep ((Fr.self _).drewN _)), _, rfl, Lib.hid fun h => by rw [Hrb.out]; simpa using h⟩
          case rest =>
            obtain ⟨HN1, b2, rfl, H10⟩ := hcut
            clear b0 r0 HNo hfr1 hgz
            have hfr2 := HN1.out.own.fr
            cases b2 with
            | true =>
              go_wp2_with fail
              go_ret2
              exact ⟨OErr.no (by decide), hfr2⟩
            | false =>
              replace H10 := Lib.hid (H10.out rfl)
              have b1 := HN1.out.node 0
              go_upto_region 12 with fail
              go_cut [63] from 51 to 62 (fun s63 wx => Hid (OwN w #[.int .i64 2, .string ⟨#[]⟩, .slice A1 tn c1, .slice A2 0 c2, .bool false, .int .i64 0, .slice A3 0 c3, .slice (some ⟨b, off, none⟩) l.length c4] s wr.heap.size #[.int .i64 kd, .int .i64 lo, .int .i64 hi, .string ⟨tx.toArray⟩, .slice A args.length ca] wx) ∧ ∃ b' : Bool, s63 = .bool b' ∧ Hid (b' = false → kd = 0 → v = 1 → okB ⟨lo, hi⟩ = true))
              case first =>
                obtain ⟨b0, hb0⟩ : ∃ b0, (kd == 0) = b0 := ⟨_, rfl⟩
                cases b0 with
                | false =>
                  have Hk0 := Lib.hid hb0
                  go_quiet (fail)
                  go_wp2_with fail
                  go_meet
                  exact ⟨Lib.hid (HN1.out.keep ((Fr.self _).drewN _)), _, rfl, Lib.hid fun _ h => absurd h (by simpa using Hk0.out)⟩
                | true =>
                  obtain rfl : kd = 0 := by simpa using hb0
                  clear hb0
                  have Hre := Lib.hid (fun W => rRangeErr 0 lo hi ⟨tx.toArray⟩ A args.length ca v Hav.out.1 W)
                  have hS := owS HN1.out hv
                  obtain ⟨s0, s1, s2, s3, s4, s5, s6, s7, s8, s9, s10, s11, s12, s13, s14⟩ := hS
                  go_region_held3 (fun w' => Hid (OwN w #[.int .i64 2, .string ⟨#[]⟩, .slice A1 tn c1, .slice A2 0 c2, .bool false, .int .i64 0, .slice A3 0 c3, .slice (some ⟨b, off, none⟩) l.length c4] s wr.heap.size #[.int .i64 0, .int .i64 lo, .int .i64 hi, .string ⟨tx.toArray⟩, .slice A args.length ca] w') ∧ w'.cell? ⟨w.heap.size + 1 + 1, m, none⟩ = some (.int .i64 v) ∧ w'.cell? ⟨wr.heap.size, 0, none⟩ = some (.int .i64 0) ∧ w'.cell? ⟨wr.heap.size, 1, none⟩ = some (.int .i64 lo) ∧ w'.cell? ⟨wr.heap.size, 2, none⟩ = some (.int .i64 hi) ∧ w'.cell? ⟨wr.heap.size, 3, none⟩ = some (.string ⟨tx.toArray⟩) ∧ w'.cell? ⟨wr.heap.size, 4, none⟩ = some (.slice A args.length ca) ∧ w'.cell? ⟨w.heap.size, 0, none⟩ = some (.int .i64 2) ∧ w'.cell? ⟨w.heap.size, 1, none⟩ = some (.string ⟨#[]⟩) ∧ w'.cell? ⟨w.heap.size, 2, none⟩ = some (.slice A1 tn c1) ∧ w'.cell? ⟨w.heap.size, 3, none⟩ = some (.slice A2 0 c2) ∧ w'.cell? ⟨w.heap.size, 4, none⟩ = some (.bool false) ∧ w'.cell? ⟨w.heap.size, 5, none⟩ = some (.int .i64 0) ∧ w'.cell? ⟨w.heap.size, 6, none⟩ = some (.slice A3 0 c3) ∧ w'.cell? ⟨w.heap.size, 7, none⟩ = some (.slice (some ⟨b, off, none⟩) l.length c4))
                    (first
                      | (go_split_ands; exact owS (OwN.keep (Hid.out (by assumption)) hf5) hv)
                      | (go_split_ands; exact owS (HN1.out.keep ((Fr.self _).drewN 1)) hv)
                      | (go_split_ands; assumption)
                      | go_keep)
                    (first | (go_at_call 70; refine (Hre.out _).mono ?_; rintro e w5 ⟨⟨r, rfl, hr⟩, hf5⟩))
                  all_goals
                    rename_i hHeld
                    have HF := hHeld.1
                    have Hr := Lib.hid hr
                    clear hHeld hr s1 s2 s3 s4 s5 s6 s7 s8 s9 s10 s11 s12 s13 s14
                    go_wp2_with fail
                    go_meet
                    exact ⟨HF, _, rfl, Lib.hid fun h _ h1 => Hr.out h1 h⟩
              case rest =>
                obtain ⟨HN2, b3, rfl, H12⟩ := hcut
                clear b1 HN1 hfr2
                have hfr3 := HN2.out.own.fr
                cases b3 with
                | true =>
                  go_wp2_with fail
                  go_ret2
                  exact ⟨OErr.no (by decide), hfr3⟩
                | false =>
                  replace H12 := Lib.hid (H12.out rfl)
                  have b2 := HN2.out.node 0
                  by_cases h1 : kd = 1
                  · subst h1
                    have hv6 : v = 6 := by
                      have q1 := Hav.out.1
                      have q2 := H10.out
                      rcases q1 with rfl | rfl | rfl | rfl
                      · exact absurd q2 (by decide)
                      · exact absurd q2 (by decide)
                      · exact absurd q2 (by decide)
                      · rfl
                    have Hnx := Lib.hid (Hend.out H10.out H12.out H7.out)
                    clear Hend H10 H12 H7 Hav
                    subst hv6
                    have Hte := Lib.hid (fun W => rTextErr A1 A2 A3 (some ⟨b, off, none⟩) tn l.length c1 c2 c3 c4 ⟨tx.toArray⟩ (by show tx.toArray.size ≤ 1000; simpa using hts) W)
                    have hS := owS HN2.out hv
                    obtain ⟨s0, s1, s2, s3, s4, s5, s6, s7, s8, s9, s10, s11, s12, s13, s14⟩ := hS
                    go_upto_region 15 with fail
                    go_region_held3 (fun w' => Hid (OwN w #[.int .i64 2, .string ⟨#[]⟩, .slice A1 tn c1, .slice A2 0 c2, .bool false, .int .i64 0, .slice A3 0 c3, .slice (some ⟨b, off, none⟩) l.length c4] s wr.heap.size #[.int .i64 1, .int .i64 lo, .int .i64 hi, .string ⟨tx.toArray⟩, .slice A args.length ca] w') ∧ w'.cell? ⟨w.heap.size + 1 + 1, m, none⟩ = some (.int .i64 6) ∧ w'.cell? ⟨wr.heap.size, 0, none⟩ = some (.int .i64 1) ∧ w'.cell? ⟨wr.heap.size, 1, none⟩ = some (.int .i64 lo) ∧ w'.cell? ⟨wr.heap.size, 2, none⟩ = some (.int .i64 hi) ∧ w'.cell? ⟨wr.heap.size, 3, none⟩ = some (.string ⟨tx.toArray⟩) ∧ w'.cell? ⟨wr.heap.size, 4, none⟩ = some (.slice A args.length ca) ∧ w'.cell? ⟨w.heap.size, 0, none⟩ = some (.int .i64 2) ∧ w'.cell? ⟨w.heap.size, 1, none⟩ = some (.string ⟨#[]⟩) ∧ w'.cell? ⟨w.heap.size, 2, none⟩ = some (.slice A1 tn c1) ∧ w'.cell? ⟨w.heap.size, 3, none⟩ = some (.slice A2 0 c2) ∧ w'.cell? ⟨w.heap.size, 4, none⟩ = some (.bool false) ∧ w'.cell? ⟨w.heap.size, 5, none⟩ = some (.int .i64 0) ∧ w'.cell? ⟨w.heap.size, 6, none⟩ = some (.slice A3 0 c3) ∧ w'.cell? ⟨w.heap.size, 7, none⟩ = some (.slice (some ⟨b, off, none⟩) l.length c4))
                      (first
                        | (go_split_ands; exact owS (OwN.keep (Hid.out (by assumption)) hf5) hv)
                        | (go_split_ands; exact owS (HN2.out.keep ((Fr.self _).drewN 1)) hv)
                        | (go_split_ands; assumption)
                        | go_keep)
                      (first | (go_at_call 71; refine (Hte.out _).mono ?_; rintro e w5 ⟨⟨r, rfl⟩, hf5⟩))
                    all_goals
                      rename_i hHeld
                      have HF := hHeld.1
                      have hfr4 := HF.out.own.fr
                      clear hHeld s1 s2 s3 s4 s5 s6 s7 s8 s9 s10 s11 s12 s13 s14
                      by_cases hr0 : r = 0
                      · subst hr0
                        go_wp2_with fail
                        go_roundw
                        case rel => exact ⟨m + 1, by omega, by go_num, Lib.hid HF.out.own, Hnx⟩
                        case measure => simp [intOf] <;> omega
                      · have hrb : (r != 0) = true := by simpa using hr0
                        have Hr0 := Lib.hid hr0
                        clear hr0
                        go_wp2_with fail
                        go_ret2
                        exact ⟨OErr.no Hr0.out, hfr4⟩
                  · have h1b : (kd == 1) = false := by simpa using h1
                    go_wp2_with fail
                    go_roundw
                    case rel => exact ⟨m + 1, by omega, by go_num, Lib.hid HN2.out.own, Lib.hid (Hend.out H10.out H12.out H7.out)⟩
                    case measure => simp [intOf] <;> omega
    · have hml : ¬ (m : Int) < l.length := by omega
      have hme : m = l.length := by omega
      have hfr := HI2.out.fr
      go_wp2_with fail
      go_ret2
      exact ⟨OErr.ok (by rw [hme] at HN; exact HN.out), hfr⟩
end Go.Proofs.YtgdedcdjfljcnaaGreatDoor
