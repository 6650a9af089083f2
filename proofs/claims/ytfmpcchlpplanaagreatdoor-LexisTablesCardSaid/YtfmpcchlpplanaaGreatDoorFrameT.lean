/- What the laws' rows give of the library's variables, and a world for their witnesses. -/
import Derived.Test.YtfmpcchlpplanaaGreatDoorAwake
import Derived.Test.YtfmpcchlpplanaaGreatDoorTables
import Derived.Test.YtfmpcchlpplanaaGreatDoorRows
import Derived.ProofKit
import Derived.OpenShut
import Derived.ShutString
import Derived.Deep.DeepHandedRow
import Derived.Deep.DeepWitnessRowRef
import Derived.Lib.LaidTab
import Derived.LaidSub
import Derived.Deep.DeepLaidRun
import Derived.ChangeBears2
namespace Go.Proofs.YtfmpcchlpplanaaGreatDoor
open Go.ChangeShapes Go.WideShapes Go.ChangeAt Go.RowKit
open Go.ChangeMaps (open_string shut_string)

theorem own : ownKnob Tryz.prog.godebug = none := by kernel_rfl
theorem laid_cell {W : World} {name nm : String} {d : DataW Unit} {g : Nat} (hg : Tryz.prog.globalNamed name = some g) (ht : (Tryz.prog.globals[g]?).map (·.type) = some 68)
    (h : laidMet Tryz.prog [(name, .iface nm d)] W) : ∃ u v, W.cell? ⟨g, 0, none⟩ = some (.iface u v) := by
  obtain ⟨ps, hv, -⟩ := h
  obtain ⟨g', t, cs, fuel, p, q, h1, h2, h3, h4, -⟩ := hv
  rw [hg] at h1; cases h1
  rw [ht] at h2; cases h2
  obtain ⟨f', u, v, hcs, -⟩ := iface_of_trod Tryz.underlying68 h4
  refine ⟨u, v, ?_⟩
  have hcs' : cs = #[.iface u v] := by cases cs; simp_all
  rw [var?_cell hg h3 0, hcs']; rfl
/-- What the rows of this seat list first. -/
def theLaid : List (String × DataW Unit) := Rows.lexisTablesRow.laid
theorem laid_range : theLaid.filter (fun x => x.1 == "strconv.ErrRange") = [("strconv.ErrRange", Rows.laid_strconv_ErrRange)] := by kernel_rfl
theorem laid_syntax : theLaid.filter (fun x => x.1 == "strconv.ErrSyntax") = [("strconv.ErrSyntax", Rows.laid_strconv_ErrSyntax)] := by kernel_rfl
theorem glob_of {W : World} (hL : laidMetH Tryz.prog theLaid W) (hsh : W.ShapedOpen Tryz.prog) : Glob W := by
  have h1 := laidMetH.filter (fun x => x.1 == "strconv.ErrRange") hL
  have h2 := laidMetH.filter (fun x => x.1 == "strconv.ErrSyntax") hL
  rw [laid_range, MakeChecks.laidMetH_plain _ _ _ (by kernel_rfl)] at h1
  rw [laid_syntax, MakeChecks.laidMetH_plain _ _ _ (by kernel_rfl)] at h2
  obtain ⟨u, v, hc⟩ := laid_cell (g := 4) (by kernel_rfl) (by kernel_rfl) h1
  obtain ⟨u', v', hc'⟩ := laid_cell (g := 3) (by kernel_rfl) (by kernel_rfl) h2
  exact ⟨Tryz.laysM144.s1_3 W hsh, ⟨_, hc, .inr ⟨u, v, rfl⟩⟩, ⟨_, hc', .inr ⟨u', v', rfl⟩⟩⟩

theorem laid_space : theLaid.filter (fun x => x.1 == "strings.asciiSpace") = [("strings.asciiSpace", Rows.laid_strings_asciiSpace)] := by kernel_rfl
theorem space_data : (Rows.laid_strings_asciiSpace : DataW Unit) = Lib.tabData .u8 Lib.asciiSpaceTab := by kernel_rfl
theorem tab_of {W : World} (hL : laidMetH Tryz.prog theLaid W) : Tab W := by
  have h := laidMetH.filter (fun x => x.1 == "strings.asciiSpace") hL
  rw [laid_space, MakeChecks.laidMetH_plain _ _ _ (by kernel_rfl), space_data] at h
  exact Lib.tabIs_of_head (g := 0) (by kernel_rfl) (by kernel_rfl) Tryz.underlying82 Tryz.underlying5 (by kernel_rfl) (by kernel_rfl) h

/-- The numbers of a datum, as cells. -/
def valsOf : DataW Unit → List Value
  | .lit (.int k n) => [.int k n]
  | .agg l => valsAll l
  | _ => []
  where valsAll : List (DataW Unit) → List Value
    | [] => []
    | d :: r => valsOf d ++ valsAll r
/-- A WORLD FOR THE WITNESS: the settled one, four blocks more (the two errors' texts, the table of blanks and its rows), the listed variables holding what their initialisers lay. -/
noncomputable def laidWorld (os : Os) : World :=
  let N := (World.settled Tryz.prog os).heap.size
  let w0 := World.holding Tryz.prog os ⟨#[.cells #[.string ⟨#[118, 97, 108, 117, 101, 32, 111, 117, 116, 32, 111, 102, 32, 114, 97, 110, 103, 101]⟩] 167, .cells #[.string ⟨#[105, 110, 118, 97, 108, 105, 100, 32, 115, 121, 110, 116, 97, 120]⟩] 167,
    .cells #[.int .u16 9, .int .u16 13, .int .u16 1, .int .u16 32, .int .u16 133, .int .u16 101, .int .u16 160, .int .u16 5760, .int .u16 5600, .int .u16 8192, .int .u16 8202, .int .u16 1, .int .u16 8232, .int .u16 8233, .int .u16 1, .int .u16 8239, .int .u16 8287, .int .u16 48, .int .u16 12288, .int .u16 12288, .int .u16 1] 125,
    .cells #[.slice (some ⟨N + 2, 0, none⟩) 7 7, .slice none 0 0, .int .i64 2] 122], #[], []⟩
  let put (h : Array Obj) (g : Nat) (cs : Array Value) : Array Obj := h.modify g fun
    | .cells _ t frozen => .cells cs t frozen
    | o => o
  let h1 := put w0.heap 8 (valsOf Rows.laid_math_bits_deBruijn32tab).toArray
  let h2 := put h1 9 (valsOf Rows.laid_math_bits_deBruijn64tab).toArray
  let h3 := put h2 7 (valsOf Rows.laid_internal_strconv_uint64pow10).toArray
  let h4 := put h3 6 (valsOf Rows.laid_unicode_utf8_acceptRanges).toArray
  let h5 := put h4 5 (valsOf Rows.laid_unicode_utf8_first).toArray
  let h6 := put h5 4 #[.iface 165 (.pointer (some ⟨N, 0, none⟩))]
  let h7 := put h6 3 #[.iface 165 (.pointer (some ⟨N + 1, 0, none⟩))]
  let h8 := put h7 0 (valsOf Rows.laid_strings_asciiSpace).toArray
  let h9 := put h8 1 #[.pointer (some ⟨N + 3, 0, none⟩)]
  { w0 with heap := h9 }
theorem laid_met (os : Os) (args : Array Value) : laidMet Tryz.prog theLaid ((laidWorld os).forCall (fun _ _ => 0) ⟨#[], args, []⟩).memory :=
  laidMet_of_run3 12 (by kernel_rfl) (by kernel_rfl) (by kernel_rfl)
end Go.Proofs.YtfmpcchlpplanaaGreatDoor
