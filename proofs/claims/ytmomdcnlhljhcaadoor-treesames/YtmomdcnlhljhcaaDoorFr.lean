/- From the rows' list (the library's tables, the tables of words) to what the program reads; a world for the witness: what all laws of this seat share on the way from the walk to the card. -/
import Derived.Test.YtmomdcnlhljhcaaDoorCards
import Derived.Test.YtmomdcnlhljhcaaDoorTie
import Derived.Test.YtmomdcnlhljhcaaDoorKw
import Derived.ProofKit
import Derived.OpenShut
import Derived.Deep.DeepHandedRow
import Derived.Lib.LaidTab
import Derived.Lib.LaidU8
import Derived.Lib.SmallJoins
import Derived.MakeChecks
import Derived.Stop.LaidErr
import Derived.ChangeMaps5
set_option linter.unusedVariables false
namespace Go.Proofs.YtmomdcnlhljhcaaDoor
open Go.ChangeShapes Go.WideShapes Go.ChangeAt Go.RowKit Go.Deep Go.Lib

theorem own : ownKnob Tryd.prog.godebug = none := by kernel_rfl
theorem laidOut : laidOutB Tryd.prog = true := by kernel_rfl
theorem gPowType : (Tryd.prog.globals[3]?).map (·.type) = some 131 := by kernel_rfl
theorem cells131 : Tryd.prog.cellsOf 131 = 20 := by kernel_rfl
theorem cells120 : Tryd.prog.cellsOf 120 = 1 := by kernel_rfl
theorem cells9 : Tryd.prog.cellsOf 9 = 1 := by kernel_rfl
theorem cells51 : Tryd.prog.cellsOf 51 = 6 := by kernel_rfl
theorem cells52 : Tryd.prog.cellsOf 52 = 17 := by kernel_rfl
theorem gKw : Tryd.prog.globalNamed "braidwork/tree.kindWords" = some 1 := by kernel_rfl
theorem gSw : Tryd.prog.globalNamed "braidwork/tree.sortWords" = some 0 := by kernel_rfl
theorem gKwType : (Tryd.prog.globals[1]?).map (·.type) = some 52 := by kernel_rfl
theorem gSwType : (Tryd.prog.globals[0]?).map (·.type) = some 51 := by kernel_rfl

/-- An array of strings that reads as these texts holds them, cell for cell. -/
theorem strs_of_tab {H : Type} {enc : TypeId × Value → H} {P : Program} {w : World} {base : Nat} {sp : Nat → Bool} {held : Bool} {fuel : Nat} {t e : TypeId} {n : Nat} {cs : List Value} {zs : List (List UInt8)} {p : List MemPlace}
    (ht : P.underlying t = some (.array n e)) (he : P.underlying e = some .string) (hce : P.cellsOf e = 1) (hct : P.cellsOf t = n)
    (h : DataW.trod enc P w base sp held fuel t cs = some (.agg (zs.map fun z => .lit (.string z)), p)) : cs = zs.map fun z => Value.string ⟨z.toArray⟩ := by
  cases fuel with
  | zero => simp [DataW.trod] at h
  | succ fuel =>
    simp only [DataW.trod, ht, hce, hct, Nat.mul_one] at h
    split at h
    · rename_i hl
      obtain ⟨xs, hm, hx⟩ := Option.map_eq_some_iff.1 h
      have hxs : xs.map (·.1) = zs.map fun z => (DataW.lit (.string z) : DataW H) := by
        have := congrArg Prod.fst hx
        simpa using this
      have hxl : xs.length = n := by simpa using mapM_length hm
      have hzl : zs.length = n := by
        have := congrArg List.length hxs
        simp at this
        omega
      apply List.ext_getElem?
      intro i
      by_cases hi : i < n
      · obtain ⟨b, hb, hf⟩ := mapM_at hm i i (by simp [hi])
        obtain ⟨s, hc, rfl, _⟩ := DataW.trod_string he hf
        have h1 : cs[i]? = some (.string s) := by
          have := congrArg (·[0]?) hc
          simpa [List.getElem?_take, List.getElem?_drop] using this
        have h2 : (xs.map (·.1))[i]? = some (DataW.lit (.string s.data.toList) : DataW H) := by simp [hb]
        rw [hxs] at h2
        simp only [List.getElem?_map, Option.map_eq_some_iff, DataW.lit.injEq, Lit.string.injEq] at h2
        obtain ⟨z', hz', rfl⟩ := h2
        rw [h1, List.getElem?_map, hz']
        rfl
      · rw [List.getElem?_eq_none (by omega), List.getElem?_eq_none (by simp; omega)]
    · cases h
theorem strs_cells {W : World} {name : String} {g n : Nat} {t : TypeId} {zs : List (List UInt8)} (hg : Tryd.prog.globalNamed name = some g) (hty : (Tryd.prog.globals[g]?).map (·.type) = some t) (ht : Tryd.prog.underlying t = some (.array n 9)) (hct : Tryd.prog.cellsOf t = n)
    (h : VarReads Tryd.prog W name (.agg (zs.map fun z => .lit (.string z)))) : ∀ i, i < zs.length → W.cell? ⟨g, i, none⟩ = some (.string ⟨(zs.getD i []).toArray⟩) := by
  obtain ⟨g', t', cs, fuel, p, hg', ht', hvar, hd⟩ := h
  obtain rfl := Option.some.inj (hg.symm.trans hg')
  obtain rfl := Option.some.inj (hty.symm.trans ht')
  have hcs := strs_of_tab ht Tryd.underlying9 cells9 hct hd
  intro i hi
  have := World.var?_cell hg hvar i
  rw [this, ← Array.getElem?_toList, hcs, List.getElem?_map, List.getElem?_eq_getElem hi]
  simp [List.getD, hi]
def kwl : List (List UInt8) := (List.range 17).map word
def swl : List (List UInt8) := (List.range 6).map swd
theorem kw_same : (Rows.laid_braidwork_tree_kindWords : DataW Unit) = .agg (kwl.map fun z => .lit (.string z)) := by kernel_rfl
theorem sw_same : (Rows.laid_braidwork_tree_sortWords : DataW Unit) = .agg (swl.map fun z => .lit (.string z)) := by kernel_rfl
theorem kw_at : ∀ i, i < 17 → kwl.getD i [] = word i := by decide
theorem sw_at : ∀ i, i < 6 → swl.getD i [] = swd i := by decide

theorem gBr : Tryd.prog.globalNamed "math/bits.deBruijn64tab" = some 6 := by kernel_rfl
theorem lt_of_reads {W : World} {name : String} {g : Nat} {d : DataW Unit} (hg : Tryd.prog.globalNamed name = some g) (h : VarReads Tryd.prog W name d) : g < W.heap.size := by
  obtain ⟨_, _, cs, _, _, _, _, hvar, _⟩ := h
  unfold World.var? at hvar
  rw [hg] at hvar
  simp only [Option.bind_some] at hvar
  rcases Nat.lt_or_ge g W.heap.size with h' | h'
  · exact h'
  · rw [Array.getElem?_eq_none h'] at hvar; cases hvar
/-- What the rows' list gives. -/
theorem lb_of {W : World} (h : laidMetH Tryd.prog [("math/bits.deBruijn32tab", Rows.laid_math_bits_deBruijn32tab), ("math/bits.deBruijn64tab", Rows.laid_math_bits_deBruijn64tab), ("internal/strconv.uint64pow10", Rows.laid_internal_strconv_uint64pow10), ("braidwork/tree.kindWords", Rows.laid_braidwork_tree_kindWords), ("braidwork/tree.sortWords", Rows.laid_braidwork_tree_sortWords)] W) : Lb W := by
  rw [Go.MakeChecks.laidMetH_plain _ _ _ (by kernel_rfl)] at h
  have h3 := laidMet.reads h (n := "braidwork/tree.kindWords") (d := Rows.laid_braidwork_tree_kindWords) (by simp)
  have h4 := laidMet.reads h (n := "braidwork/tree.sortWords") (d := Rows.laid_braidwork_tree_sortWords) (by simp)
  rw [kw_same] at h3
  rw [sw_same] at h4
  have t3 := h.tail.tail
  have h6 := laidMet.reads h (n := "math/bits.deBruijn64tab") (d := Rows.laid_math_bits_deBruijn64tab) (by simp)
  refine ⟨lt_of_reads gBr h6, ?_, ?_, ?_⟩
  · exact Lib.tabIs_of_head gPow gPowType Tryd.underlying131 Tryd.underlying120 cells120 cells131 t3
  · intro i hi
    rw [strs_cells gKw gKwType Tryd.underlying52 cells52 h3 i hi, kw_at i hi]
  · intro i hi
    rw [strs_cells gSw gSwType Tryd.underlying51 cells51 h4 i hi, sw_at i hi]

def t32 : List Int := [0, 1, 28, 2, 29, 14, 24, 3, 30, 22, 20, 15, 25, 17, 4, 8, 31, 27, 13, 23, 21, 19, 16, 7, 26, 12, 18, 6, 11, 5, 10, 9]
def t64 : List Int := [0, 1, 56, 2, 57, 49, 28, 3, 61, 58, 42, 50, 38, 29, 17, 4, 62, 47, 59, 36, 45, 43, 51, 22, 53, 39, 33, 30, 24, 18, 12, 5, 63, 55, 48, 27, 60, 41, 37, 16, 46, 35, 44, 21, 52, 32, 23, 11, 54, 26, 40, 15, 34, 20, 31, 10, 25, 14, 19, 9, 13, 8, 7, 6]
def fillWith (l : List Value) : Obj → Obj
  | .cells _ t frozen => .cells l.toArray t frozen
  | o => o
/-- A world for the witness: the settled one, the tables (blocks 0, 1, 3, 5, 6) holding what their initialisers lay. -/
noncomputable def laidWorld2 (os : Os) : World :=
  { World.holding Tryd.prog os ⟨#[], #[], []⟩ with
    heap := ((((((World.holding Tryd.prog os ⟨#[], #[], []⟩).heap.modify 3 (fillWith (Lib.pow10Tab.map (Value.int .u64)))).modify 5 (fillWith (t32.map (Value.int .u8)))).modify 6 (fillWith (t64.map (Value.int .u8)))).modify 1 (fillWith (kwl.map fun z => Value.string ⟨z.toArray⟩))).modify 0 (fillWith (swl.map fun z => Value.string ⟨z.toArray⟩))) }
end Go.Proofs.YtmomdcnlhljhcaaDoor
