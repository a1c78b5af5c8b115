/- From the rows' list to the table of powers; pairs opened and shut; the witness' world: what all laws of this seat share on the way from the walk to the card. -/
import Derived.Test.YtmbdbdgilhjgeaaDoorCards
import Derived.Test.YtmbdbdgilhjgeaaDoorTie
import Derived.Test.YtmbdbdgilhjgeaaDoorNs
import Derived.ProofKit
import Derived.OpenShut
import Derived.Deep.DeepHandedRow
import Derived.Lib.LaidTab
import Derived.Lib.SmallJoins
import Derived.Stop.LaidErr
import Derived.MakeChecks
namespace Go.Proofs.YtmbdbdgilhjgeaaDoor
open Go.ChangeShapes Go.WideShapes Go.ChangeAt Go.RowKit Go.Deep

theorem own : ownKnob Tryd.prog.godebug = none := by kernel_rfl
theorem laidOut : laidOutB Tryd.prog = true := by kernel_rfl
theorem gPowType : (Tryd.prog.globals[4]?).map (·.type) = some 107 := by kernel_rfl
theorem cells107 : Tryd.prog.cellsOf 107 = 20 := by kernel_rfl
theorem cells37 : Tryd.prog.cellsOf 37 = 1 := by kernel_rfl

/-- What the rows' list gives: the table's cells hold the powers of ten. -/
theorem tb_of {W : World} (h : laidMetH Tryd.prog [("math/bits.deBruijn32tab", Rows.laid_math_bits_deBruijn32tab), ("math/bits.deBruijn64tab", Rows.laid_math_bits_deBruijn64tab), ("internal/strconv.uint64pow10", Rows.laid_internal_strconv_uint64pow10)] W) : Tb W := by
  rw [Go.MakeChecks.laidMetH_plain _ _ _ (by kernel_rfl)] at h
  exact Lib.tabIs_of_head (rest := []) gPow gPowType Tryd.underlying107 Tryd.underlying37 cells37 cells107 h.tail.tail

def t32 : List Int := [0, 1, 28, 2, 29, 14, 24, 3, 30, 22, 20, 15, 25, 17, 4, 8, 31, 27, 13, 23, 21, 19, 16, 7, 26, 12, 18, 6, 11, 5, 10, 9]
def t64 : List Int := [0, 1, 56, 2, 57, 49, 28, 3, 61, 58, 42, 50, 38, 29, 17, 4, 62, 47, 59, 36, 45, 43, 51, 22, 53, 39, 33, 30, 24, 18, 12, 5, 63, 55, 48, 27, 60, 41, 37, 16, 46, 35, 44, 21, 52, 32, 23, 11, 54, 26, 40, 15, 34, 20, 31, 10, 25, 14, 19, 9, 13, 8, 7, 6]

def fillWith (l : List Value) : Obj → Obj
  | .cells _ t frozen => .cells l.toArray t frozen
  | o => o
/-- A world for the witness: the settled one, the three tables (blocks 4, 7, 8) holding what their initialisers lay. -/
noncomputable def laidWorld (os : Os) : World :=
  { World.holding Tryd.prog os ⟨#[], #[], []⟩ with heap := (((World.holding Tryd.prog os ⟨#[], #[], []⟩).heap.modify 4 (fillWith (Lib.pow10Tab.map (Value.int .u64)))).modify 7 (fillWith (t32.map (Value.int .u8)))).modify 8 (fillWith (t64.map (Value.int .u8))) }

theorem one23 : oneCellFields Tryd.prog #[⟨ "Re", 21, 0, false, "", "", 0⟩, ⟨ "Im", 21, 1, false, "", "", 4⟩] = true := by kernel_rfl
theorem cells23 : Tryd.prog.cellsOf 23 = 2 := by kernel_rfl
theorem nat_of_u64 {x : Int} (h : (Lit.int .u64 x).wf = true) : ∃ n : Nat, x = (n : Int) ∧ n < 18446744073709551616 := by
  have hb := bounds_u64 h
  exact ⟨x.toNat, by omega, by omega⟩
theorem i32_of {x : Int} (h : (Lit.int .i32 x).wf = true) : I32 x := by
  have hb := bounds_i32 h
  exact ⟨by omega, by omega⟩

section
variable {H : Type} {enc : TypeId × Value → H} {W W' : World} {base : Nat} {spare : Nat → Bool} {held : Bool}

set_option maxRecDepth 100000 in
theorem open_pr {r : Reach} {b0 : Nat} {v : Value} {d : DataW H} {p : List MemPlace} (hv : Value.okWide Tryd.prog W r b0 23 v) (h : DataW.Trod enc Tryd.prog W base spare held 23 v d p) :
    ∃ a b : Int, v = pr a b ∧ d = .agg [.lit (.int .i32 a), .lit (.int .i32 b)] ∧ p = [] ∧ (Lit.int .i32 a).wf = true ∧ (Lit.int .i32 b).wf = true := by
  obtain ⟨v0, v1, y0, y1, n, rfl, rfl, rfl, h0, h1⟩ := Joins.open_agg2 Tryd.underlying23 one23 cells23 hv h
  obtain ⟨a, ha, rfl, wa⟩ := DataW.trod_int Tryd.underlying21 h0
  obtain ⟨b, hb, rfl, wb⟩ := DataW.trod_int Tryd.underlying21 h1
  simp only [List.cons.injEq, and_true] at ha hb
  subst ha hb
  exact ⟨a, b, rfl, rfl, rfl, wa, wb⟩
set_option maxRecDepth 100000 in
theorem shut_pr {a b : Int} (ha : (Lit.int .i32 a).wf = true) (hb : (Lit.int .i32 b).wf = true) : DataW.Trod enc Tryd.prog W base spare held 23 (pr a b) (.agg [.lit (.int .i32 a), .lit (.int .i32 b)]) [] := by
  have s0 : ∃ n, DataW.trod enc Tryd.prog W base spare held n 21 [.int .i32 a] = some (.lit (.int .i32 a), []) := by
    obtain ⟨n, h⟩ := shut_int (enc := enc) (P := Tryd.prog) (w := W) (base := base) (spare := spare) (held := held) Tryd.underlying21 ha
    exact ⟨n, h⟩
  have s1 : ∃ n, DataW.trod enc Tryd.prog W base spare held n 21 [.int .i32 b] = some (.lit (.int .i32 b), []) := by
    obtain ⟨n, h⟩ := shut_int (enc := enc) (P := Tryd.prog) (w := W) (base := base) (spare := spare) (held := held) Tryd.underlying21 hb
    exact ⟨n, h⟩
  exact Joins.shut_agg2 (y0 := (.lit (.int .i32 a), [])) (y1 := (.lit (.int .i32 b), [])) Tryd.underlying23 one23 cells23 s0 s1
end
end Go.Proofs.YtmbdbdgilhjgeaaDoor
