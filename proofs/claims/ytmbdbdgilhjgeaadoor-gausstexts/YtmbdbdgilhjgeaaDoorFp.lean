/- From the rows' list (with the library's errors and the table of first bytes) to what Parse reads; a world for the witness. -/
import Derived.Test.YtmbdbdgilhjgeaaDoorFr
import Derived.Test.YtmbdbdgilhjgeaaDoorPr
import Derived.Lib.LaidU8T
import Derived.ChangeMaps5
set_option linter.unusedVariables false
namespace Go.Proofs.YtmbdbdgilhjgeaaDoor
open Go.ChangeShapes Go.WideShapes Go.ChangeAt Go.RowKit Go.Deep Go.Shelf Go.Lib

theorem u8types : U8Types Tryd.prog Tryd.lays271_ren := ⟨Tryd.underlying5, Tryd.underlying111, Tryd.underlying113, Tryd.underlying114⟩
theorem u8extra : U8Extra Tryd.prog Tryd.lays271_ren := ⟨by kernel_rfl, by kernel_rfl, by kernel_rfl, by kernel_rfl, by kernel_rfl, by kernel_rfl, by kernel_rfl⟩
theorem synType : (Tryd.prog.globals[2]?).map (·.type) = some 66 := by kernel_rfl
theorem ranType : (Tryd.prog.globals[3]?).map (·.type) = some 66 := by kernel_rfl
theorem cells119 : Tryd.prog.cellsOf 119 = 1 := by kernel_rfl
theorem cells9 : Tryd.prog.cellsOf 9 = 1 := by kernel_rfl
theorem star : "*" ++ "errors.errorString" = "*errors.errorString" := by decide
theorem row117 (u : TypeId) (h : Tryd.prog.typeName? 3 u = some "*errors.errorString") : u = 117 :=
  typeName_ptr_named (nm := "errors.errorString") (by rw [star]; kernel_rfl) (by kernel_rfl) (by decide) u (by rw [star]; exact h)
theorem first_same : Rows.laid_unicode_utf8_first = firstData := by kernel_rfl
theorem accept_same : (Rows.laid_unicode_utf8_acceptRanges : DataW Unit) = acceptData := by kernel_rfl

theorem lb_of {W : World} (h : laidMetH Tryd.prog [("math/bits.deBruijn32tab", Rows.laid_math_bits_deBruijn32tab), ("math/bits.deBruijn64tab", Rows.laid_math_bits_deBruijn64tab), ("internal/strconv.uint64pow10", Rows.laid_internal_strconv_uint64pow10), ("unicode/utf8.acceptRanges", Rows.laid_unicode_utf8_acceptRanges), ("strconv.ErrRange", Rows.laid_strconv_ErrRange), ("strconv.ErrSyntax", Rows.laid_strconv_ErrSyntax), ("unicode/utf8.first", Rows.laid_unicode_utf8_first)] W) : Lb W := by
  rw [Go.MakeChecks.laidMetH_plain _ _ _ (by kernel_rfl)] at h
  have h3 := laidMet.reads h (n := "unicode/utf8.first") (d := Rows.laid_unicode_utf8_first) (by simp)
  have h4 := laidMet.reads h (n := "unicode/utf8.acceptRanges") (d := Rows.laid_unicode_utf8_acceptRanges) (by simp)
  rw [first_same] at h3
  rw [accept_same] at h4
  have t3 := h.tail.tail
  have t5 := t3.tail.tail
  have t6 := t5.tail
  refine ⟨?_, utf8Tabs_of_readsT u8types u8extra h3 h4, ?_, ?_⟩
  · exact Lib.tabIs_of_head gPow gPowType Tryd.underlying107 Tryd.underlying37 cells37 cells107 t3
  · obtain ⟨a0, s0, hv0, -, -, -⟩ := laid_sentinel t6 gSyn synType Tryd.underlying66 row117 Tryd.underlying117 Tryd.underlying119 rfl rfl Tryd.underlying9 cells119 cells9
    exact ⟨_, _, hv0⟩
  · obtain ⟨a0, s0, hv0, -, -, -⟩ := laid_sentinel t5 gRan ranType Tryd.underlying66 row117 Tryd.underlying117 Tryd.underlying119 rfl rfl Tryd.underlying9 cells119 cells9
    exact ⟨_, _, hv0⟩

noncomputable def low : Nat := (World.holding Tryd.prog default ⟨#[], #[], []⟩).heap.size
def tAcc : List Int := [128, 191, 160, 191, 128, 159, 144, 191, 128, 143, 0, 0, 0, 0, 0, 0, 0, 0, 0, 0, 0, 0, 0, 0, 0, 0, 0, 0, 0, 0, 0, 0]
/-- A world for the witness: the settled one, two texts of errors behind it; the tables (blocks 4 to 8) and the two errors (blocks 2, 3) holding what their initialisers lay. -/
noncomputable def laidWorld2 (os : Os) : World :=
  { World.holding Tryd.prog os ⟨#[.cells #[.string ⟨#[105, 110, 118, 97, 108, 105, 100, 32, 115, 121, 110, 116, 97, 120]⟩] 119, .cells #[.string ⟨#[118, 97, 108, 117, 101, 32, 111, 117, 116, 32, 111, 102, 32, 114, 97, 110, 103, 101]⟩] 119], #[], []⟩ with
    heap := (((((((World.holding Tryd.prog os ⟨#[.cells #[.string ⟨#[105, 110, 118, 97, 108, 105, 100, 32, 115, 121, 110, 116, 97, 120]⟩] 119, .cells #[.string ⟨#[118, 97, 108, 117, 101, 32, 111, 117, 116, 32, 111, 102, 32, 114, 97, 110, 103, 101]⟩] 119], #[], []⟩).heap.modify 4 (fillWith (Lib.pow10Tab.map (Value.int .u64)))).modify 7 (fillWith (t32.map (Value.int .u8)))).modify 8 (fillWith (t64.map (Value.int .u8)))).modify 5 (fillWith (firstTab.map (Value.int .u8)))).modify 6 (fillWith (tAcc.map (Value.int .u8)))).modify 2 (fillWith [.iface 117 (.pointer (some ⟨low, 0, none⟩))])).modify 3 (fillWith [.iface 117 (.pointer (some ⟨low + 1, 0, none⟩))]) }
end Go.Proofs.YtmbdbdgilhjgeaaDoor
