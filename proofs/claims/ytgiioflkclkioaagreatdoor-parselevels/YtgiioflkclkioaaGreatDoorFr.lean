/- From the rows' list (the library's tables and errors, the tables of words) to what the program reads; a world for the witness. -/
import Derived.Test.YtgiioflkclkioaaGreatDoorCards
import Derived.Test.YtgiioflkclkioaaGreatDoorTie
import Derived.Test.YtgiioflkclkioaaGreatDoorPr
import Derived.Test.YtgiioflkclkioaaGreatDoorTn
import Derived.ProofKit
import Derived.OpenShut
import Derived.Deep.DeepHandedRow
import Derived.Lib.LaidTab
import Derived.Lib.LaidU8
import Derived.Lib.SmallJoins
import Derived.Stop.LaidErr
import Derived.MakeChecks
import Derived.Lib.LaidU8T
import Derived.ChangeMaps5
set_option linter.unusedVariables false
namespace Go.Proofs.YtgiioflkclkioaaGreatDoor
open Go.ChangeShapes Go.WideShapes Go.ChangeAt Go.RowKit Go.Deep Go.Shelf Go.Lib

theorem own : ownKnob Tryz.prog.godebug = none := by kernel_rfl
theorem laidOut : laidOutB Tryz.prog = true := by kernel_rfl
theorem gPowType : (Tryz.prog.globals[5]?).map (·.type) = some 218 := by kernel_rfl
theorem cells218 : Tryz.prog.cellsOf 218 = 20 := by kernel_rfl
theorem cells146 : Tryz.prog.cellsOf 146 = 1 := by kernel_rfl
theorem u8types : U8Types Tryz.prog Tryz.lays271_ren := ⟨Tryz.underlying5, Tryz.underlying213, Tryz.underlying215, Tryz.underlying216⟩
theorem u8extra : U8Extra Tryz.prog Tryz.lays271_ren := ⟨by kernel_rfl, by kernel_rfl, by kernel_rfl, by kernel_rfl, by kernel_rfl, by kernel_rfl, by kernel_rfl⟩
theorem synType : (Tryz.prog.globals[11]?).map (·.type) = some 108 := by kernel_rfl
theorem ranType : (Tryz.prog.globals[12]?).map (·.type) = some 108 := by kernel_rfl
theorem cells277 : Tryz.prog.cellsOf 277 = 1 := by kernel_rfl
theorem cells9 : Tryz.prog.cellsOf 9 = 1 := by kernel_rfl
theorem star : "*" ++ "errors.errorString" = "*errors.errorString" := by decide
theorem row275 (u : TypeId) (h : Tryz.prog.typeName? 3 u = some "*errors.errorString") : u = 275 :=
  typeName_ptr_named (nm := "errors.errorString") (by rw [star]; kernel_rfl) (by kernel_rfl) (by decide) u (by rw [star]; exact h)
theorem first_same : Rows.laid_unicode_utf8_first = firstData := by kernel_rfl
theorem accept_same : (Rows.laid_unicode_utf8_acceptRanges : DataW Unit) = acceptData := by kernel_rfl
theorem cells90 : Tryz.prog.cellsOf 90 = 6 := by kernel_rfl
theorem cells141 : Tryz.prog.cellsOf 141 = 17 := by kernel_rfl
theorem gKw : Tryz.prog.globalNamed "braidwork/tree.kindWords" = some 10 := by kernel_rfl
theorem gSw : Tryz.prog.globalNamed "braidwork/tree.sortWords" = some 6 := by kernel_rfl
theorem gKwType : (Tryz.prog.globals[10]?).map (·.type) = some 141 := by kernel_rfl
theorem gSwType : (Tryz.prog.globals[6]?).map (·.type) = some 90 := by kernel_rfl

/-- An array of strings that reads as these texts holds them, cell for cell. -/
theorem strs_of_tab {H : Type} {enc : TypeId × Value → H} {P : Program} {w : World} {base : Nat} {sp : Nat → Bool} {held : Bool} {fuel : Nat} {t e : TypeId} {n : Nat} {cs : List Value} {zs : List (List UInt8)} {p : List MemPlace}
    (ht : P.underlying t = some (.array n e)) (he : P.underlying e = some .string) (hce : P.cellsOf e = 1) (hct : P.cellsOf t = n)
    (h : DataW.trod enc P w base sp held fuel t cs = some (.agg (zs.map fun z => .lit (.string z)), p)) : cs = zs.map fun z => Value.string ⟨z.toArray⟩ := by
  cases fuel with
  | zero => simp [DataW.trod] at h
  | succ fuel =>
    simp only [DataW.trod, ht, hce, hct, Nat.mul_one] at h
    split at h
    · rename_i hl
      obtain ⟨xs, hm, hx⟩ := Option.map_eq_some_iff.1 h
      have hxs : xs.map (·.1) = zs.map fun z => (DataW.lit (.string z) : DataW H) := by
        have := congrArg Prod.fst hx
        simpa using this
      have hxl : xs.length = n := by simpa using mapM_length hm
      have hzl : zs.length = n := by
        have := congrArg List.length hxs
        simp at this
        omega
      apply List.ext_getElem?
      intro i
      by_cases hi : i < n
      · obtain ⟨b, hb, hf⟩ := mapM_at hm i i (by simp [hi])
        obtain ⟨s, hc, rfl, _⟩ := DataW.trod_string he hf
        have h1 : cs[i]? = some (.string s) := by
          have := congrArg (·[0]?) hc
          simpa [List.getElem?_take, List.getElem?_drop] using this
        have h2 : (xs.map (·.1))[i]? = some (DataW.lit (.string s.data.toList) : DataW H) := by simp [hb]
        rw [hxs] at h2
        simp only [List.getElem?_map, Option.map_eq_some_iff, DataW.lit.injEq, Lit.string.injEq] at h2
        obtain ⟨z', hz', rfl⟩ := h2
        rw [h1, List.getElem?_map, hz']
        rfl
      · rw [List.getElem?_eq_none (by omega), List.getElem?_eq_none (by simp; omega)]
    · cases h
theorem strs_cells {W : World} {name : String} {g n : Nat} {t : TypeId} {zs : List (List UInt8)} (hg : Tryz.prog.globalNamed name = some g) (hty : (Tryz.prog.globals[g]?).map (·.type) = some t) (ht : Tryz.prog.underlying t = some (.array n 9)) (hct : Tryz.prog.cellsOf t = n)
    (h : VarReads Tryz.prog W name (.agg (zs.map fun z => .lit (.string z)))) : ∀ i, i < zs.length → W.cell? ⟨g, i, none⟩ = some (.string ⟨(zs.getD i []).toArray⟩) := by
  obtain ⟨g', t', cs, fuel, p, hg', ht', hvar, hd⟩ := h
  obtain rfl := Option.some.inj (hg.symm.trans hg')
  obtain rfl := Option.some.inj (hty.symm.trans ht')
  have hcs := strs_of_tab ht Tryz.underlying9 cells9 hct hd
  intro i hi
  have := World.var?_cell hg hvar i
  rw [this, ← Array.getElem?_toList, hcs, List.getElem?_map, List.getElem?_eq_getElem hi]
  simp [List.getD, hi]
def kwl : List (List UInt8) := (List.range 17).map word
def swl : List (List UInt8) := (List.range 6).map swd
theorem kw_same : (Rows.laid_braidwork_tree_kindWords : DataW Unit) = .agg (kwl.map fun z => .lit (.string z)) := by kernel_rfl
theorem sw_same : (Rows.laid_braidwork_tree_sortWords : DataW Unit) = .agg (swl.map fun z => .lit (.string z)) := by kernel_rfl
theorem kw_at : ∀ i, i < 17 → kwl.getD i [] = word i := by decide
theorem sw_at : ∀ i, i < 6 → swl.getD i [] = swd i := by decide

theorem lt_of_reads {W : World} {name : String} {g : Nat} {d : DataW Unit} (hg : Tryz.prog.globalNamed name = some g) (h : VarReads Tryz.prog W name d) : g < W.heap.size := by
  obtain ⟨_, _, cs, _, _, _, _, hvar, _⟩ := h
  unfold World.var? at hvar
  rw [hg] at hvar
  simp only [Option.bind_some] at hvar
  rcases Nat.lt_or_ge g W.heap.size with h' | h'
  · exact h'
  · rw [Array.getElem?_eq_none h'] at hvar; cases hvar
/-- What the rows' list gives. -/
theorem lb_of {W : World} (h : laidMetH Tryz.prog [("math/bits.deBruijn32tab", Rows.laid_math_bits_deBruijn32tab), ("math/bits.deBruijn64tab", Rows.laid_math_bits_deBruijn64tab), ("internal/strconv.uint64pow10", Rows.laid_internal_strconv_uint64pow10), ("unicode/utf8.acceptRanges", Rows.laid_unicode_utf8_acceptRanges), ("strconv.ErrRange", Rows.laid_strconv_ErrRange), ("strconv.ErrSyntax", Rows.laid_strconv_ErrSyntax), ("braidwork/tree.kindWords", Rows.laid_braidwork_tree_kindWords), ("braidwork/tree.sortWords", Rows.laid_braidwork_tree_sortWords), ("unicode/utf8.first", Rows.laid_unicode_utf8_first)] W) : Lb W ∧ Lk W := by
  rw [Go.MakeChecks.laidMetH_plain _ _ _ (by kernel_rfl)] at h
  have h3 := laidMet.reads h (n := "unicode/utf8.first") (d := Rows.laid_unicode_utf8_first) (by simp)
  have h4 := laidMet.reads h (n := "unicode/utf8.acceptRanges") (d := Rows.laid_unicode_utf8_acceptRanges) (by simp)
  have h5 := laidMet.reads h (n := "braidwork/tree.kindWords") (d := Rows.laid_braidwork_tree_kindWords) (by simp)
  have h6 := laidMet.reads h (n := "braidwork/tree.sortWords") (d := Rows.laid_braidwork_tree_sortWords) (by simp)
  have h7 := laidMet.reads h (n := "strconv.ErrRange") (d := Rows.laid_strconv_ErrRange) (by simp)
  rw [first_same] at h3
  rw [accept_same] at h4
  rw [kw_same] at h5
  rw [sw_same] at h6
  have t3 := h.tail.tail
  have t5 := t3.tail.tail
  have t6 := t5.tail
  refine ⟨⟨?_, utf8Tabs_of_readsT u8types u8extra h3 h4, ?_, ?_⟩, ⟨lt_of_reads gRan h7, ?_, ?_⟩⟩
  · exact Lib.tabIs_of_head gPow gPowType Tryz.underlying218 Tryz.underlying146 cells146 cells218 t3
  · obtain ⟨a0, s0, hv0, -, -, -⟩ := laid_sentinel t6 gSyn synType Tryz.underlying108 row275 Tryz.underlying275 Tryz.underlying277 rfl rfl Tryz.underlying9 cells277 cells9
    exact ⟨_, _, hv0⟩
  · obtain ⟨a0, s0, hv0, -, -, -⟩ := laid_sentinel t5 gRan ranType Tryz.underlying108 row275 Tryz.underlying275 Tryz.underlying277 rfl rfl Tryz.underlying9 cells277 cells9
    exact ⟨_, _, hv0⟩
  · intro i hi
    rw [strs_cells gKw gKwType Tryz.underlying141 cells141 h5 i hi, kw_at i hi]
  · intro i hi
    rw [strs_cells gSw gSwType Tryz.underlying90 cells90 h6 i hi, sw_at i hi]

def t32 : List Int := [0, 1, 28, 2, 29, 14, 24, 3, 30, 22, 20, 15, 25, 17, 4, 8, 31, 27, 13, 23, 21, 19, 16, 7, 26, 12, 18, 6, 11, 5, 10, 9]
def t64 : List Int := [0, 1, 56, 2, 57, 49, 28, 3, 61, 58, 42, 50, 38, 29, 17, 4, 62, 47, 59, 36, 45, 43, 51, 22, 53, 39, 33, 30, 24, 18, 12, 5, 63, 55, 48, 27, 60, 41, 37, 16, 46, 35, 44, 21, 52, 32, 23, 11, 54, 26, 40, 15, 34, 20, 31, 10, 25, 14, 19, 9, 13, 8, 7, 6]
def fillWith (l : List Value) : Obj → Obj
  | .cells _ t frozen => .cells l.toArray t frozen
  | o => o
noncomputable def low : Nat := (World.holding Tryz.prog default ⟨#[], #[], []⟩).heap.size
def tAcc : List Int := [128, 191, 160, 191, 128, 159, 144, 191, 128, 143, 0, 0, 0, 0, 0, 0, 0, 0, 0, 0, 0, 0, 0, 0, 0, 0, 0, 0, 0, 0, 0, 0]
def errs2 : Array Obj := #[.cells #[.string ⟨#[105, 110, 118, 97, 108, 105, 100, 32, 115, 121, 110, 116, 97, 120]⟩] 277, .cells #[.string ⟨#[118, 97, 108, 117, 101, 32, 111, 117, 116, 32, 111, 102, 32, 114, 97, 110, 103, 101]⟩] 277]
/-- A world for the witness: the settled one, two texts of errors behind it; the tables (blocks 5, 7, 8, 3, 4, 10, 6) and the two errors (blocks 11, 12) holding what their initialisers lay. -/
noncomputable def laidWorld2 (os : Os) : World :=
  { World.holding Tryz.prog os ⟨errs2, #[], []⟩ with
    heap := (((((((((World.holding Tryz.prog os ⟨errs2, #[], []⟩).heap.modify 5 (fillWith (Lib.pow10Tab.map (Value.int .u64)))).modify 7 (fillWith (t32.map (Value.int .u8)))).modify 8 (fillWith (t64.map (Value.int .u8)))).modify 3 (fillWith (firstTab.map (Value.int .u8)))).modify 4 (fillWith (tAcc.map (Value.int .u8)))).modify 11 (fillWith [.iface 275 (.pointer (some ⟨low, 0, none⟩))])).modify 12 (fillWith [.iface 275 (.pointer (some ⟨low + 1, 0, none⟩))])).modify 10 (fillWith (kwl.map fun z => Value.string ⟨z.toArray⟩))).modify 6 (fillWith (swl.map fun z => Value.string ⟨z.toArray⟩)) }
end Go.Proofs.YtgiioflkclkioaaGreatDoor
