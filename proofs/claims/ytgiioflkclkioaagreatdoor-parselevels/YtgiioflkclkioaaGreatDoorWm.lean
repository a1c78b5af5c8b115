/- Layer 5's ParseLevels: true of any two signs. -/
import Derived.Test.YtgiioflkclkioaaGreatDoorEu
import Derived.Test.YtgiioflkclkioaaGreatDoorLv
import Derived.Deep.RegionHeld3
import Derived.Deep.DeepCutAuto
import Derived.Deep.CutBlock
import Derived.Deep.QuietTactic
import Derived.BigQuiet
set_option linter.unusedSimpArgs false
set_option linter.unusedVariables false
namespace Go.Proofs.YtgiioflkclkioaaGreatDoor
open Go.RowKit Ieee

/-- One text behind another one, as the program puts them. -/
def Cat (x y z : ByteArray) : Prop := ∀ w, (Op.stringOp .add x y).run Tryz.prog w = .ok (.string z) w
theorem cat_ok (x y : List UInt8) (hx : x.length ≤ 1000) (hy : y.length ≤ 1000) : Cat ⟨x.toArray⟩ ⟨y.toArray⟩ ⟨(x ++ y).toArray⟩ := cat_run x y hx hy
set_option maxRecDepth 100000 in
theorem text24 (s c1 c2 : ByteArray) (h1 : Cat ⟨#[116, 104, 114, 101, 97, 100, 32, 116, 32, 123, 32, 114, 32, 61, 32]⟩ s c1) (h2 : Cat c1 ⟨#[59, 32, 125]⟩ c2) (w : World) : Calls Tryz.prog 24 #[.string s] w fun e w' => e = .returned (.string c2) ∧ w = w' := by
  unfold Cat at h1 h2
  go_enter Tryz.func24, Tryz.ntmps24
  go_wp2
  go_ret
  exact ⟨rfl, rfl⟩
/-- The lists of signs, of levels. -/
def opsC : Array Value := #[.string ⟨#[43]⟩, .string ⟨#[45]⟩, .string ⟨#[42]⟩, .string ⟨#[61, 61]⟩, .string ⟨#[33, 61]⟩, .string ⟨#[60]⟩]
def lvsC : Array Value := #[.int .i64 1, .int .i64 1, .int .i64 2, .int .i64 0, .int .i64 0, .int .i64 0]
theorem opsC_at (i : Nat) (h : i < 6) : opsC[i]? = some (.string ⟨(op2 i).toArray⟩) := by
  match i, h with
  | 0, _ => rfl
  | 1, _ => rfl
  | 2, _ => rfl
  | 3, _ => rfl
  | 4, _ => rfl
  | 5, _ => rfl
theorem lvsC_at (i : Nat) (h : i < 6) : lvsC[i]? = some (.int .i64 (lvl i : Int)) := by
  match i, h with
  | 0, _ => rfl
  | 1, _ => rfl
  | 2, _ => rfl
  | 3, _ => rfl
  | 4, _ => rfl
  | 5, _ => rfl
section
variable {W w' w'' : World} {a0 a1 : Addr} {v0 v1 : Value}
theorem below_drew7 (w : World) : Below w.heap.size w w.drew := ⟨rfl, rfl, rfl, Nat.le_refl _, fun _ _ => rfl⟩
theorem cell_on7 {w w' : World} {a : Addr} {v : Value} (h : w.cell? a = some v) (k : Below w.heap.size w w') : w'.cell? a = some v := (k.cell (lt_of_cl h)).trans h
theorem held7 (h : Below W.heap.size W w' ∧ w'.cell? a0 = some v0 ∧ w'.cell? a1 = some v1) (k : Below w'.heap.size w' w'') : Below W.heap.size W w'' ∧ w''.cell? a0 = some v0 ∧ w''.cell? a1 = some v1 :=
  ⟨below_tr h.1 k, cell_on7 h.2.1 k, cell_on7 h.2.2 k⟩
theorem held7a (h : Below W.heap.size W w' ∧ w'.cell? a0 = some v0 ∧ w'.cell? a1 = some v1) (o : Obj) : Below W.heap.size W (w'.alloc o) ∧ (w'.alloc o).cell? a0 = some v0 ∧ (w'.alloc o).cell? a1 = some v1 := held7 h (below_alloc _ _)
theorem held7b (h : Below W.heap.size W w'.drew ∧ w'.drew.cell? a0 = some v0 ∧ w'.drew.cell? a1 = some v1) (o : Obj) : Below W.heap.size W (w'.alloc o).drew ∧ (w'.alloc o).drew.cell? a0 = some v0 ∧ (w'.alloc o).drew.cell? a1 = some v1 := held7a h o
theorem held7s {p : Addr} (h : Below W.heap.size W w' ∧ w'.cell? a0 = some v0 ∧ w'.cell? a1 = some v1) (hp : W.heap.size ≤ p.block) (h0 : a0.block < W.heap.size) (h1 : a1.block < W.heap.size) (u : Value) : Below W.heap.size W (w'.setCell p u) ∧ (w'.setCell p u).cell? a0 = some v0 ∧ (w'.setCell p u).cell? a1 = some v1 := by
  have hb : Below W.heap.size W (w'.setCell p u) := h.1.setCell hp u
  exact ⟨hb, (hb.cell h0).trans ((h.1.cell h0).symm.trans h.2.1), (hb.cell h1).trans ((h.1.cell h1).symm.trans h.2.2)⟩
theorem nb7 (hb : Below (W.alloc (.cells #[.slice none 0 0] 29)).drew.heap.size (W.alloc (.cells #[.slice none 0 0] 29)).drew w') : w'.cell? ⟨W.heap.size, 0, none⟩ = some (.slice none 0 0) ∧ w'.frozen? ⟨W.heap.size, 0, none⟩ = false := by
  have h : w'.heap[W.heap.size]? = some (.cells #[.slice none 0 0] 29) := (hb.block W.heap.size (by show W.heap.size < (W.alloc _).heap.size; simp)).trans (heap_alloc_new W _)
  exact ⟨row_cell h, row_frozen h⟩
end
set_option maxRecDepth 100000 in
set_option maxHeartbeats 6400000 in
theorem levA (a b i k P : Nat) (O1 O2 A1 A2 A3 A4 B E1 E2 : ByteArray) (ha : a < 256) (hb : b < 256) (hia : (a : Int) % 6 = (i : Int)) (hkb : (b : Int) % 6 = (k : Int)) (hi : i < 6) (hk : k < 6)
    (q1 : opsC[i]? = some (.string O1)) (q2 : opsC[k]? = some (.string O2)) (q3 : lvsC[i]? = some (.int .i64 0)) (q4 : lvsC[k]? = some (.int .i64 0))
    (c1 : Cat ⟨#[120, 32]⟩ O1 A1) (c2 : Cat A1 ⟨#[32, 121, 32]⟩ A2) (c3 : Cat A2 O2 A3) (c4 : Cat A3 ⟨#[32, 122]⟩ A4)
    (d1 : Cat ⟨#[116, 104, 114, 101, 97, 100, 32, 116, 32, 123, 32, 114, 32, 61, 32, 120, 32]⟩ O1 E1) (d2 : Cat E1 ⟨#[32, 121, 32]⟩ E2) (hP : E2.size = P)
    (w : World) (ht : ∀ w', Calls Tryz.prog 24 #[.string A4] w' fun e w'' => e = .returned (.string B) ∧ w' = w'')
    (hp : ∀ w', Below w.heap.size w w' → Calls Tryz.prog 18 #[.string B] w' fun e w'' => e = .returned (.tuple #[.agg #[.slice none 0 0], .int .i64 (P : Int), .int .i64 1]) ∧ Below w'.heap.size w' w'')
    (hA : ∀ w', Below w.heap.size w w' → Calls Tryz.prog 15 #[] w' (Tt w')) : Calls Tryz.prog 7 #[.int .u8 (a : Int), .int .u8 (b : Int)] w (Tt w) := by
  have HA := Lib.hid hA
  have HT := Lib.hid ht
  have HP := Lib.hid hp
  have HPS := Lib.hid hP
  unfold Tt at HA ⊢
  unfold Cat at c1 c2 c3 c4 d1 d2
  have hi6 : (i : Int) < 6 := by omega
  have hk6 : (k : Int) < 6 := by omega
  clear hA ht hp hP
  go_enter Tryz.func7, Tryz.ntmps7
  go_wp2_with fail
  refine (HA.out _ (Below.refl _ _)).mono ?_
  rintro en w1 ⟨rfl, hb1⟩
  have HB1 := Lib.hid hb1
  clear hb1
  obtain ⟨n, hn⟩ : ∃ n, w1.heap.size = n := ⟨_, rfl⟩
  obtain ⟨W, hW⟩ : ∃ W, (w1.alloc (.cells opsC 9)).alloc (.cells lvsC 3) = W := ⟨_, rfl⟩
  have r1 : W.heap[n]? = some (.cells opsC 9) := by rw [← hW, ← hn, Below.heap_alloc _ _ _ (by simp)]; exact heap_alloc_new _ _
  have r2 : W.heap[n + 1]? = some (.cells lvsC 3) := by rw [← hW, ← hn]; have := heap_alloc_new (w1.alloc (.cells opsC 9)) (.cells lvsC 3); simpa using this
  have y1 : W.cell? ⟨n, i, none⟩ = some (.string O1) := (row_cell r1).trans q1
  have y2 : W.cell? ⟨n, k, none⟩ = some (.string O2) := (row_cell r1).trans q2
  have z1 : W.cell? ⟨n + 1, i, none⟩ = some (.int .i64 0) := (row_cell r2).trans q3
  have z2 : W.cell? ⟨n + 1, k, none⟩ = some (.int .i64 0) := (row_cell r2).trans q4
  have HBW : Hid (Below w.heap.size w W) := Lib.hid (by rw [← hW]; exact below_tr HB1.out ((below_alloc _ _).alloc (by simp) _))
  have hnW : n < W.heap.size := lt_of_row r1
  have hnW1 : n + 1 < W.heap.size := lt_of_row r2
  have HPW : Hid (∀ w', Below W.heap.size W w' → Calls Tryz.prog 18 #[.string B] w' fun e w'' => e = .returned (.tuple #[.agg #[.slice none 0 0], .int .i64 (P : Int), .int .i64 1]) ∧ Below w'.heap.size w' w'') := Lib.hid (fun w' h => HP.out w' (below_tr HBW.out h))
  have HWE := Lib.hid hW
  have HNE := Lib.hid hn
  have HY1 := Lib.hid y1
  have HY2 := Lib.hid y2
  have HZ1 := Lib.hid z1
  have HZ2 := Lib.hid z2
  unfold opsC lvsC at HWE
  clear hW hn r1 r2 q1 q2 q3 q4 y1 y2 z1 z2
  go_wp2_with fail
  rw [HWE.out, HNE.out]
  go_cut [10, 11, 12] (fun _ u11 u12 wc => u11 = .int .i64 (P : Int) ∧ u12 = .int .i64 1 ∧ Below W.heap.size W wc)
  case first =>
    have hS0 : Below W.heap.size W W.drew ∧ W.drew.cell? ⟨n, i, none⟩ = some (.string O1) ∧ W.drew.cell? ⟨n, k, none⟩ = some (.string O2) := ⟨below_drew7 W, HY1.out, HY2.out⟩
    go_region_held3 (fun w' => Below W.heap.size W w' ∧ w'.cell? ⟨n, i, none⟩ = some (.string O1) ∧ w'.cell? ⟨n, k, none⟩ = some (.string O2))
      (first | exact hS0 | assumption | ((refine held7a ?_ _); assumption) | ((refine held7b ?_ _); assumption) | ((refine held7s ?_ (Nat.le_refl _) hnW hnW _); assumption) | ((refine held7 ?_ kb); assumption))
      (first | (go_at_call 24; ((with_reducible refine (HT.out _).mono ?_); rintro e w' ⟨rfl, rfl⟩)) | (go_at_call 18; ((with_reducible refine (HPW.out _ (And.left (by assumption))).mono ?_); rintro e w' ⟨rfl, kb⟩; try (have yc := nb7 kb))))
    all_goals go_wp2_with fail
    all_goals go_meet
    all_goals exact ⟨rfl, rfl, And.left (by assumption)⟩
  case rest =>
    obtain ⟨rfl, rfl, hbc⟩ := hcut
    have f1 : wc.cell? ⟨n, i, none⟩ = some (.string O1) := (hbc.cell (p := ⟨n, i, none⟩) hnW).trans HY1.out
    have f3 : wc.cell? ⟨n + 1, i, none⟩ = some (.int .i64 0) := (hbc.cell (p := ⟨n + 1, i, none⟩) hnW1).trans HZ1.out
    have f4 : wc.cell? ⟨n + 1, k, none⟩ = some (.int .i64 0) := (hbc.cell (p := ⟨n + 1, k, none⟩) hnW1).trans HZ2.out
    have hps := HPS.out
    have HBC := Lib.hid (below_tr HBW.out hbc)
    clear hbc
    go_wp2
    go_ret
    exact ⟨rfl, HBC.out⟩
/-- What region 7 leaves: the variable, the tree that it holds. -/
def Rel7 (W wc : World) (gb : Nat) (l : List Dp) : Prop := ∃ p c, gb < wc.heap.size ∧ W.heap.size ≤ gb ∧ wc.cell? ⟨gb, 0, none⟩ = some (.slice p 1 c) ∧ DpsV wc (Lt wc) l p c ∧ Below W.heap.size W wc
section
variable {W w' : World} {l : List Dp} {p : Option Addr} {c : Nat}
theorem dpsV_on {w w' : World} {S S' : Nat → Prop} {l : List Dp} {p : Option Addr} {c : Nat} (hs : Same S w w') (hS : ∀ g, S g → S' g) (h : DpsV w S l p c) : DpsV w' S' l p c := by
  rcases h with h | ⟨g, e1, hg, h0, h1, h2, h⟩
  · exact .inl h
  · exact .inr ⟨g, e1, hS g hg, h0, h1, h2, h.on hs hS hg⟩
theorem rel7a (hb : Below W.drew.heap.size W.drew w') (hd : DpsV w' (Nw W.drew.heap.size w') l p c) : Rel7 W (w'.alloc (.cells #[.slice p 1 c] 29)) w'.heap.size l :=
  ⟨p, c, by simp, hb.size, row_cell (heap_alloc_new _ _), dpsV_on (Same.below (below_alloc _ _) fun g hg => hg.2) (fun g hg => by show g < _; have := hg.2; simp; omega) hd, below_tr (below_tr (below_drew7 W) hb) (below_alloc _ _)⟩
theorem rel7b (hb : Below (W.alloc (.cells #[.slice none 0 0] 29)).drew.heap.size (W.alloc (.cells #[.slice none 0 0] 29)).drew w') (hd : DpsV w' (Nw (W.alloc (.cells #[.slice none 0 0] 29)).drew.heap.size w') l p c) : Rel7 W (w'.setCell ⟨W.heap.size, 0, none⟩ (.slice p 1 c)) W.heap.size l := by
  have hz : (W.alloc (.cells #[.slice none 0 0] 29)).drew.heap.size = W.heap.size + 1 := by show (W.alloc _).heap.size = _; simp
  have h1 : W.heap.size < w'.heap.size := by have := hb.size; omega
  have hbw : Below W.heap.size W w' := (below_tr (below_alloc W _) (below_drew7 (W.alloc (.cells #[.slice none 0 0] 29)))).trans (hb.mono (by omega))
  have h : w'.heap[W.heap.size]? = some (.cells #[.slice none 0 0] 29) := (hb.block W.heap.size (by omega)).trans (heap_alloc_new W _)
  refine ⟨p, c, by simpa [World.setCell] using h1, Nat.le_refl _, ?_, dpsV_on (S := Nw (W.alloc (.cells #[.slice none 0 0] 29)).drew.heap.size w') ?_ ?_ hd, hbw.setCell (Nat.le_refl _) _⟩
  · obtain ⟨v', hv⟩ : ∃ v', w'.cell? ⟨W.heap.size, 0, none⟩ = some v' := ⟨_, row_cell h⟩
    exact World.cell?_setCell_same _ _ _ hv
  · intro g o hg
    have : g ≠ W.heap.size := by have := hg.1; omega
    exact World.cell?_of_block (Below.heap_setCell _ _ _ _ this)
  · intro g hg
    show g < _
    have := hg.2
    simpa [World.setCell] using this
end
set_option maxRecDepth 100000 in
set_option maxHeartbeats 6400000 in
theorem levB (a b i k : Nat) (li lk : Int) (l : List Dp) (O1 O2 A1 A2 A3 A4 B F1 F2 F3 F4 D : ByteArray) (ha : a < 256) (hb : b < 256) (hia : (a : Int) % 6 = (i : Int)) (hkb : (b : Int) % 6 = (k : Int)) (hi : i < 6) (hk : k < 6)
    (q1 : opsC[i]? = some (.string O1)) (q2 : opsC[k]? = some (.string O2)) (q3 : lvsC[i]? = some (.int .i64 li)) (q4 : lvsC[k]? = some (.int .i64 lk)) (hl0 : (li == 0) = false) (hgt : decide (li < lk) = false)
    (c1 : Cat ⟨#[120, 32]⟩ O1 A1) (c2 : Cat A1 ⟨#[32, 121, 32]⟩ A2) (c3 : Cat A2 O2 A3) (c4 : Cat A3 ⟨#[32, 122]⟩ A4)
    (f1 : Cat ⟨#[40, 120, 32]⟩ O1 F1) (f2 : Cat F1 ⟨#[32, 121, 41, 32]⟩ F2) (f3 : Cat F2 O2 F3) (f4 : Cat F3 ⟨#[32, 122]⟩ F4)
    (w : World) (ht : ∀ w', Calls Tryz.prog 24 #[.string A4] w' fun e w'' => e = .returned (.string B) ∧ w' = w'') (ht2 : ∀ w', Calls Tryz.prog 24 #[.string F4] w' fun e w'' => e = .returned (.string D) ∧ w' = w'')
    (hp : ∀ w', Below w.heap.size w w' → Calls Tryz.prog 18 #[.string B] w' fun e w'' => ∃ p c, e = .returned (.tuple #[.agg #[.slice p 1 c], .int .i64 0, .int .i64 0]) ∧ DpsV w'' (Nw w'.heap.size w'') l p c ∧ Below w'.heap.size w' w'')
    (hp2 : ∀ w', Below w.heap.size w w' → Calls Tryz.prog 18 #[.string D] w' fun e w'' => ∃ p c, e = .returned (.tuple #[.agg #[.slice p 1 c], .int .i64 0, .int .i64 0]) ∧ DpsV w'' (Nw w'.heap.size w'') l p c ∧ Below w'.heap.size w' w'')
    (hs : ∀ w' p c q d, DpsV w' (Lt w') l p c → DpsV w' (Lt w') l q d → Calls Tryz.prog 20 #[.agg #[.slice p 1 c], .agg #[.slice q 1 d]] w' (Tt w'))
    (hA : ∀ w', Below w.heap.size w w' → Calls Tryz.prog 15 #[] w' (Tt w')) : Calls Tryz.prog 7 #[.int .u8 (a : Int), .int .u8 (b : Int)] w (Tt w) := by
  have HA := Lib.hid hA
  have HT := Lib.hid ht
  have HT2 := Lib.hid ht2
  have HP := Lib.hid hp
  have HP2 := Lib.hid hp2
  have HS := Lib.hid hs
  unfold Tt at HA HS ⊢
  unfold Cat at c1 c2 c3 c4 f1 f2 f3 f4
  have hi6 : (i : Int) < 6 := by omega
  have hk6 : (k : Int) < 6 := by omega
  clear hA ht hp ht2 hp2 hs
  go_enter Tryz.func7, Tryz.ntmps7
  go_wp2_with fail
  refine (HA.out _ (Below.refl _ _)).mono ?_
  rintro en w1 ⟨rfl, hb1⟩
  have HB1 := Lib.hid hb1
  clear hb1
  obtain ⟨n, hn⟩ : ∃ n, w1.heap.size = n := ⟨_, rfl⟩
  obtain ⟨W, hW⟩ : ∃ W, (w1.alloc (.cells opsC 9)).alloc (.cells lvsC 3) = W := ⟨_, rfl⟩
  have r1 : W.heap[n]? = some (.cells opsC 9) := by rw [← hW, ← hn, Below.heap_alloc _ _ _ (by simp)]; exact heap_alloc_new _ _
  have r2 : W.heap[n + 1]? = some (.cells lvsC 3) := by rw [← hW, ← hn]; have := heap_alloc_new (w1.alloc (.cells opsC 9)) (.cells lvsC 3); simpa using this
  have y1 : W.cell? ⟨n, i, none⟩ = some (.string O1) := (row_cell r1).trans q1
  have y2 : W.cell? ⟨n, k, none⟩ = some (.string O2) := (row_cell r1).trans q2
  have z1 : W.cell? ⟨n + 1, i, none⟩ = some (.int .i64 li) := (row_cell r2).trans q3
  have z2 : W.cell? ⟨n + 1, k, none⟩ = some (.int .i64 lk) := (row_cell r2).trans q4
  have HBW : Hid (Below w.heap.size w W) := Lib.hid (by rw [← hW]; exact below_tr HB1.out ((below_alloc _ _).alloc (by simp) _))
  have hnW : n < W.heap.size := lt_of_row r1
  have hnW1 : n + 1 < W.heap.size := lt_of_row r2
  have HPW : Hid (∀ w', Below W.heap.size W w' → Calls Tryz.prog 18 #[.string B] w' fun e w'' => ∃ p c, e = .returned (.tuple #[.agg #[.slice p 1 c], .int .i64 0, .int .i64 0]) ∧ DpsV w'' (Nw w'.heap.size w'') l p c ∧ Below w'.heap.size w' w'') := Lib.hid (fun w' h => HP.out w' (below_tr HBW.out h))
  have HWE := Lib.hid hW
  have HNE := Lib.hid hn
  have HY1 := Lib.hid y1
  have HY2 := Lib.hid y2
  have HZ1 := Lib.hid z1
  have HZ2 := Lib.hid z2
  unfold opsC lvsC at HWE
  clear hW hn r1 r2 q1 q2 q3 q4 y1 y2 z1 z2
  go_wp2_with fail
  rw [HWE.out, HNE.out]
  go_cut [10, 11, 12] (fun u10 u11 u12 wc => ∃ gb, u10 = .pointer (some ⟨gb, 0, none⟩) ∧ u11 = .int .i64 0 ∧ u12 = .int .i64 0 ∧ Rel7 W wc gb l)
  case first =>
    have hS0 : Below W.heap.size W W.drew ∧ W.drew.cell? ⟨n, i, none⟩ = some (.string O1) ∧ W.drew.cell? ⟨n, k, none⟩ = some (.string O2) := ⟨below_drew7 W, HY1.out, HY2.out⟩
    go_region_held3 (fun w' => Below W.heap.size W w' ∧ w'.cell? ⟨n, i, none⟩ = some (.string O1) ∧ w'.cell? ⟨n, k, none⟩ = some (.string O2))
      (first | exact hS0 | assumption | ((refine held7a ?_ _); assumption) | ((refine held7b ?_ _); assumption) | ((refine held7s ?_ (Nat.le_refl _) hnW hnW _); assumption) | ((refine held7 ?_ kb); assumption) | exact held7a (held7 hS0 kb) _)
      (first | (go_at_call 24; ((with_reducible refine (HT.out _).mono ?_); rintro e w' ⟨rfl, rfl⟩)) | (go_at_call 18; ((with_reducible refine (HPW.out _ (And.left (by assumption))).mono ?_); rintro e w' ⟨p, c, rfl, hdv, kb⟩; try (have yc := nb7 kb))))
    all_goals go_wp2_with fail
    all_goals go_meet
    all_goals first | exact ⟨_, rfl, rfl, rfl, rel7a kb hdv⟩ | exact ⟨_, rfl, rfl, rfl, rel7b kb hdv⟩
  case rest =>
    obtain ⟨gb, rfl, rfl, rfl, hrel7⟩ := hcut
    obtain ⟨p, c, hgb, hgW, hcb, hdv, hbc⟩ := hrel7
    have e1 : wc.cell? ⟨n, i, none⟩ = some (.string O1) := (hbc.cell (p := ⟨n, i, none⟩) hnW).trans HY1.out
    have e2 : wc.cell? ⟨n, k, none⟩ = some (.string O2) := (hbc.cell (p := ⟨n, k, none⟩) hnW).trans HY2.out
    have e3 : wc.cell? ⟨n + 1, i, none⟩ = some (.int .i64 li) := (hbc.cell (p := ⟨n + 1, i, none⟩) hnW1).trans HZ1.out
    have e4 : wc.cell? ⟨n + 1, k, none⟩ = some (.int .i64 lk) := (hbc.cell (p := ⟨n + 1, k, none⟩) hnW1).trans HZ2.out
    have HBC := Lib.hid (below_tr HBW.out hbc)
    have HDV := Lib.hid hdv
    have HCB := Lib.hid hcb
    clear hbc hdv hcb
    go_wp2_with fail
    go_quiet (fail)
    go_wp2_with fail
    go_quiet (fail)
    go_wp2_with fail
    refine (HT2.out _).mono ?_
    rintro en w' ⟨rfl, rfl⟩
    go_wp2_with fail
    refine (HP2.out (wc.drewN _) ⟨HBC.out.os, HBC.out.tape, HBC.out.output, HBC.out.size, HBC.out.block⟩).mono ?_
    rintro en w4 ⟨q, d, rfl, hdq, kb⟩
    have kb' : Below wc.heap.size wc w4 := ⟨kb.os, kb.tape, kb.output, kb.size, kb.block⟩
    have hdq' : DpsV w4 (Nw wc.heap.size w4) l q d := hdq
    have HDQ := Lib.hid hdq'
    have HKB := Lib.hid kb'
    have hgb4 : gb < w4.heap.size := Nat.lt_of_lt_of_le hgb kb'.size
    have gcb : w4.cell? ⟨gb, 0, none⟩ = some (.slice p 1 c) := (kb'.cell (p := ⟨gb, 0, none⟩) hgb).trans HCB.out
    have hne : gb ≠ w4.heap.size := by omega
    clear kb hdq kb' hdq' e1 e2 e3 e4
    go_wp2_with fail
    refine (HS.out _ _ _ _ _ (dpsV_on (S := Lt wc) (Same.below (HKB.out.trans ((below_alloc _ _).mono HKB.out.size)) fun _ g => g) (fun g hg => Nat.lt_of_lt_of_le hg (HKB.out.trans ((below_alloc _ _).mono HKB.out.size)).size) HDV.out) (dpsV_on (Same.below (below_alloc _ _) fun g hg => hg.2) (fun g hg => Nat.lt_of_lt_of_le hg.2 (below_alloc _ _).size) HDQ.out)).mono ?_
    rintro en w6 ⟨rfl, hb6⟩
    have HB6 := Lib.hid (below_tr HBC.out (below_tr HKB.out (below_new hb6)))
    clear hb6
    go_wp2
    go_ret
    exact ⟨rfl, HB6.out⟩
set_option maxRecDepth 100000 in
set_option maxHeartbeats 6400000 in
theorem levC (a b i k : Nat) (li lk : Int) (l : List Dp) (O1 O2 A1 A2 A3 A4 B F1 F2 F3 F4 G2 G3 G4 D : ByteArray) (ha : a < 256) (hb : b < 256) (hia : (a : Int) % 6 = (i : Int)) (hkb : (b : Int) % 6 = (k : Int)) (hi : i < 6) (hk : k < 6)
    (q1 : opsC[i]? = some (.string O1)) (q2 : opsC[k]? = some (.string O2)) (q3 : lvsC[i]? = some (.int .i64 li)) (q4 : lvsC[k]? = some (.int .i64 lk)) (hl : (li = 0 ∧ (lk == 0) = false) ∨ (li == 0) = false) (hgt : decide (li < lk) = true)
    (c1 : Cat ⟨#[120, 32]⟩ O1 A1) (c2 : Cat A1 ⟨#[32, 121, 32]⟩ A2) (c3 : Cat A2 O2 A3) (c4 : Cat A3 ⟨#[32, 122]⟩ A4)
    (f1 : Cat ⟨#[40, 120, 32]⟩ O1 F1) (f2 : Cat F1 ⟨#[32, 121, 41, 32]⟩ F2) (f3 : Cat F2 O2 F3) (f4 : Cat F3 ⟨#[32, 122]⟩ F4)
    (g2 : Cat A1 ⟨#[32, 40, 121, 32]⟩ G2) (g3 : Cat G2 O2 G3) (g4 : Cat G3 ⟨#[32, 122, 41]⟩ G4)
    (w : World) (ht : ∀ w', Calls Tryz.prog 24 #[.string A4] w' fun e w'' => e = .returned (.string B) ∧ w' = w'') (ht2 : ∀ w', Calls Tryz.prog 24 #[.string G4] w' fun e w'' => e = .returned (.string D) ∧ w' = w'')
    (hp : ∀ w', Below w.heap.size w w' → Calls Tryz.prog 18 #[.string B] w' fun e w'' => ∃ p c, e = .returned (.tuple #[.agg #[.slice p 1 c], .int .i64 0, .int .i64 0]) ∧ DpsV w'' (Nw w'.heap.size w'') l p c ∧ Below w'.heap.size w' w'')
    (hp2 : ∀ w', Below w.heap.size w w' → Calls Tryz.prog 18 #[.string D] w' fun e w'' => ∃ p c, e = .returned (.tuple #[.agg #[.slice p 1 c], .int .i64 0, .int .i64 0]) ∧ DpsV w'' (Nw w'.heap.size w'') l p c ∧ Below w'.heap.size w' w'')
    (hs : ∀ w' p c q d, DpsV w' (Lt w') l p c → DpsV w' (Lt w') l q d → Calls Tryz.prog 20 #[.agg #[.slice p 1 c], .agg #[.slice q 1 d]] w' (Tt w'))
    (hA : ∀ w', Below w.heap.size w w' → Calls Tryz.prog 15 #[] w' (Tt w')) : Calls Tryz.prog 7 #[.int .u8 (a : Int), .int .u8 (b : Int)] w (Tt w) := by
  have HA := Lib.hid hA
  have HT := Lib.hid ht
  have HT2 := Lib.hid ht2
  have HP := Lib.hid hp
  have HP2 := Lib.hid hp2
  have HS := Lib.hid hs
  unfold Tt at HA HS ⊢
  unfold Cat at c1 c2 c3 c4 f1 f2 f3 f4 g2 g3 g4
  have hi6 : (i : Int) < 6 := by omega
  have hk6 : (k : Int) < 6 := by omega
  clear hA ht hp ht2 hp2 hs
  go_enter Tryz.func7, Tryz.ntmps7
  go_wp2_with fail
  refine (HA.out _ (Below.refl _ _)).mono ?_
  rintro en w1 ⟨rfl, hb1⟩
  have HB1 := Lib.hid hb1
  clear hb1
  obtain ⟨n, hn⟩ : ∃ n, w1.heap.size = n := ⟨_, rfl⟩
  obtain ⟨W, hW⟩ : ∃ W, (w1.alloc (.cells opsC 9)).alloc (.cells lvsC 3) = W := ⟨_, rfl⟩
  have r1 : W.heap[n]? = some (.cells opsC 9) := by rw [← hW, ← hn, Below.heap_alloc _ _ _ (by simp)]; exact heap_alloc_new _ _
  have r2 : W.heap[n + 1]? = some (.cells lvsC 3) := by rw [← hW, ← hn]; have := heap_alloc_new (w1.alloc (.cells opsC 9)) (.cells lvsC 3); simpa using this
  have y1 : W.cell? ⟨n, i, none⟩ = some (.string O1) := (row_cell r1).trans q1
  have y2 : W.cell? ⟨n, k, none⟩ = some (.string O2) := (row_cell r1).trans q2
  have z1 : W.cell? ⟨n + 1, i, none⟩ = some (.int .i64 li) := (row_cell r2).trans q3
  have z2 : W.cell? ⟨n + 1, k, none⟩ = some (.int .i64 lk) := (row_cell r2).trans q4
  have HBW : Hid (Below w.heap.size w W) := Lib.hid (by rw [← hW]; exact below_tr HB1.out ((below_alloc _ _).alloc (by simp) _))
  have hnW : n < W.heap.size := lt_of_row r1
  have hnW1 : n + 1 < W.heap.size := lt_of_row r2
  have HPW : Hid (∀ w', Below W.heap.size W w' → Calls Tryz.prog 18 #[.string B] w' fun e w'' => ∃ p c, e = .returned (.tuple #[.agg #[.slice p 1 c], .int .i64 0, .int .i64 0]) ∧ DpsV w'' (Nw w'.heap.size w'') l p c ∧ Below w'.heap.size w' w'') := Lib.hid (fun w' h => HP.out w' (below_tr HBW.out h))
  have HWE := Lib.hid hW
  have HNE := Lib.hid hn
  have HY1 := Lib.hid y1
  have HY2 := Lib.hid y2
  have HZ1 := Lib.hid z1
  have HZ2 := Lib.hid z2
  unfold opsC lvsC at HWE
  clear hW hn r1 r2 q1 q2 q3 q4 y1 y2 z1 z2
  go_wp2_with fail
  rw [HWE.out, HNE.out]
  go_cut [10, 11, 12] (fun u10 u11 u12 wc => ∃ gb, u10 = .pointer (some ⟨gb, 0, none⟩) ∧ u11 = .int .i64 0 ∧ u12 = .int .i64 0 ∧ Rel7 W wc gb l)
  case first =>
    have hS0 : Below W.heap.size W W.drew ∧ W.drew.cell? ⟨n, i, none⟩ = some (.string O1) ∧ W.drew.cell? ⟨n, k, none⟩ = some (.string O2) := ⟨below_drew7 W, HY1.out, HY2.out⟩
    go_region_held3 (fun w' => Below W.heap.size W w' ∧ w'.cell? ⟨n, i, none⟩ = some (.string O1) ∧ w'.cell? ⟨n, k, none⟩ = some (.string O2))
      (first | exact hS0 | assumption | ((refine held7a ?_ _); assumption) | ((refine held7b ?_ _); assumption) | ((refine held7s ?_ (Nat.le_refl _) hnW hnW _); assumption) | ((refine held7 ?_ kb); assumption) | exact held7a (held7 hS0 kb) _)
      (first | (go_at_call 24; ((with_reducible refine (HT.out _).mono ?_); rintro e w' ⟨rfl, rfl⟩)) | (go_at_call 18; ((with_reducible refine (HPW.out _ (And.left (by assumption))).mono ?_); rintro e w' ⟨p, c, rfl, hdv, kb⟩; try (have yc := nb7 kb))))
    all_goals go_wp2_with fail
    all_goals go_meet
    all_goals first | exact ⟨_, rfl, rfl, rfl, rel7a kb hdv⟩ | exact ⟨_, rfl, rfl, rfl, rel7b kb hdv⟩
  case rest =>
    obtain ⟨gb, rfl, rfl, rfl, hrel7⟩ := hcut
    obtain ⟨p, c, hgb, hgW, hcb, hdv, hbc⟩ := hrel7
    have e1 : wc.cell? ⟨n, i, none⟩ = some (.string O1) := (hbc.cell (p := ⟨n, i, none⟩) hnW).trans HY1.out
    have e2 : wc.cell? ⟨n, k, none⟩ = some (.string O2) := (hbc.cell (p := ⟨n, k, none⟩) hnW).trans HY2.out
    have e3 : wc.cell? ⟨n + 1, i, none⟩ = some (.int .i64 li) := (hbc.cell (p := ⟨n + 1, i, none⟩) hnW1).trans HZ1.out
    have e4 : wc.cell? ⟨n + 1, k, none⟩ = some (.int .i64 lk) := (hbc.cell (p := ⟨n + 1, k, none⟩) hnW1).trans HZ2.out
    have HBC := Lib.hid (below_tr HBW.out hbc)
    have HDV := Lib.hid hdv
    have HCB := Lib.hid hcb
    clear hbc hdv hcb
    rcases hl with ⟨rfl, hl1⟩ | hl1
    all_goals
      go_wp2_with fail
      go_quiet (fail)
      go_wp2_with fail
      go_quiet (fail)
      go_wp2_with fail
      go_quiet (fail)
      go_wp2_with fail
      refine (HT2.out _).mono ?_
      rintro en w' ⟨rfl, rfl⟩
      go_wp2_with fail
      refine (HP2.out (wc.drewN _) ⟨HBC.out.os, HBC.out.tape, HBC.out.output, HBC.out.size, HBC.out.block⟩).mono ?_
      rintro en w4 ⟨q, d, rfl, hdq, kb⟩
      have kb' : Below wc.heap.size wc w4 := ⟨kb.os, kb.tape, kb.output, kb.size, kb.block⟩
      have hdq' : DpsV w4 (Nw wc.heap.size w4) l q d := hdq
      have HDQ := Lib.hid hdq'
      have HKB := Lib.hid kb'
      have hgb4 : gb < w4.heap.size := Nat.lt_of_lt_of_le hgb kb'.size
      have gcb : w4.cell? ⟨gb, 0, none⟩ = some (.slice p 1 c) := (kb'.cell (p := ⟨gb, 0, none⟩) hgb).trans HCB.out
      have hne : gb ≠ w4.heap.size := by omega
      clear kb hdq kb' hdq' e1 e2 e3 e4
      go_wp2_with fail
      refine (HS.out _ _ _ _ _ (dpsV_on (S := Lt wc) (Same.below (HKB.out.trans ((below_alloc _ _).mono HKB.out.size)) fun _ g => g) (fun g hg => Nat.lt_of_lt_of_le hg (HKB.out.trans ((below_alloc _ _).mono HKB.out.size)).size) HDV.out) (dpsV_on (Same.below (below_alloc _ _) fun g hg => hg.2) (fun g hg => Nat.lt_of_lt_of_le hg.2 (below_alloc _ _).size) HDQ.out)).mono ?_
      rintro en w6 ⟨rfl, hb6⟩
      have HB6 := Lib.hid (below_tr HBC.out (below_tr HKB.out (below_new hb6)))
      clear hb6
      go_wp2
      go_ret
      exact ⟨rfl, HB6.out⟩
end Go.Proofs.YtgiioflkclkioaaGreatDoor
set_option linter.unusedSimpArgs false
set_option linter.unusedVariables false
namespace Go.Proofs.YtgiioflkclkioaaGreatDoor
open Go.RowKit Ieee

theorem pr_ok {T : List UInt8} {l : List Dp} (h : parse T = .ok l) (hl : l.length = 1) (hT : T.length ≤ 16384) (w : World) (hb : Lb w) (hk : Lk w) :
    Calls Tryz.prog 18 #[.string ⟨T.toArray⟩] w fun e w' => ∃ p c, e = .returned (.tuple #[.agg #[.slice p 1 c], .int .i64 0, .int .i64 0]) ∧ DpsV w' (Nw w.heap.size w') l p c ∧ Below w.heap.size w w' := by
  have h0 := parseP_any ⟨T.toArray⟩ (by simpa [ByteArray.size] using hT) w hb hk
  have e1 : (⟨T.toArray⟩ : ByteArray).data.toList = T := rfl
  rw [e1, h] at h0
  refine h0.mono fun e w' hp => ?_
  unfold PR at hp
  simp only [hl, Int.cast_ofNat_Int] at hp
  exact hp
theorem pr_err {T : List UInt8} {p c : Nat} (h : parse T = .error (p, c)) (hT : T.length ≤ 16384) (w : World) (hb : Lb w) (hk : Lk w) :
    Calls Tryz.prog 18 #[.string ⟨T.toArray⟩] w fun e w' => e = .returned (.tuple #[.agg #[.slice none 0 0], .int .i64 (p : Int), .int .i64 (c : Int)]) ∧ Below w.heap.size w w' := by
  have h0 := parseP_any ⟨T.toArray⟩ (by simpa [ByteArray.size] using hT) w hb hk
  have e1 : (⟨T.toArray⟩ : ByteArray).data.toList = T := rfl
  rw [e1, h] at h0
  refine h0.mono fun e w' hp => ?_
  unfold PR at hp
  exact hp
theorem op2_len (i : Nat) : (op2 i).length ≤ 2 := by
  unfold op2
  split <;> simp
theorem lvX_right (i k : Nat) (hi : i < 6) (hk : k < 6) : Wx (lvX i k) := by
  unfold lvX
  split
  · exact ⟨hi, ⟨by simp, by simp⟩, hk, ⟨by simp, by simp⟩, by simp, by simp⟩
  · exact ⟨hk, ⟨hi, ⟨by simp, by simp⟩, by simp, by simp⟩, by simp, by simp⟩
theorem lvD_same (i k : Nat) (hi : i < 6) (hk : k < 6) : Alds (lvD i k) (lvD i k) := by
  refine ⟨rfl, fun j d e h1 h2 => ?_⟩
  rw [h1] at h2
  injection h2 with h2
  subst h2
  have hm := List.mem_of_getElem? h1
  have hd : d = ⟨5, [116], 0, 0, .cons 0 [114] [] false [lvX i k] .nil .nil 11 .nil, 0⟩ := by simpa [lvD] using hm
  subst hd
  exact ⟨⟨rfl, rfl, rfl, rfl, Al.refl _⟩, by show Sm 0; unfold Sm; decide, by show Sm 0; unfold Sm; decide, by simp [Pt.len], ⟨by simp, fun x hx => by simp at hx; subst hx; exact lvX_right i k hi hk⟩, ⟨by simp [Pt.len], by simp [Pt.len]⟩, trivial, trivial, trivial⟩
theorem lvT_len {e : List UInt8} (h : e.length ≤ 100) : (lvT e).length ≤ 16384 := by unfold lvT; simp; omega
theorem lvl_cases (i : Nat) : lvl i = 0 ∨ lvl i = 1 ∨ lvl i = 2 := by unfold lvl; split <;> simp
theorem levels_any (a b : Nat) (ha : a < 256) (hb : b < 256) (w : World) (hlb : Lb w) (hlk : Lk w) : Calls Tryz.prog 7 #[.int .u8 (a : Int), .int .u8 (b : Int)] w (Tt w) := by
  obtain ⟨i, hi⟩ : ∃ i, a % 6 = i := ⟨_, rfl⟩
  obtain ⟨k, hk⟩ : ∃ k, b % 6 = k := ⟨_, rfl⟩
  have hi6 : i < 6 := by omega
  have hk6 : k < 6 := by omega
  have ei : (a : Int) % 6 = (i : Int) := by omega
  have ek : (b : Int) % 6 = (k : Int) := by omega
  have li := op2_len i
  have lk := op2_len k
  have q1 := opsC_at i hi6
  have q2 := opsC_at k hk6
  have q3 := lvsC_at i hi6
  have q4 := lvsC_at k hk6
  have c1 := cat_ok [120, 32] (op2 i) (by simp) (by omega)
  have c2 := cat_ok ([120, 32] ++ op2 i) [32, 121, 32] (by simp; omega) (by simp)
  have c3 := cat_ok ([120, 32] ++ op2 i ++ [32, 121, 32]) (op2 k) (by simp; omega) (by omega)
  have c4 := cat_ok ([120, 32] ++ op2 i ++ [32, 121, 32] ++ op2 k) [32, 122] (by simp; omega) (by simp)
  have hA : ∀ w', Below w.heap.size w w' → Calls Tryz.prog 15 #[] w' (Tt w') := fun w' h => awake5 w' (hlb.on h) (hlk.on h)
  have hlE : (lvE i k).length ≤ 100 := by unfold lvE; simp; omega
  have hlL : (lvL i k).length ≤ 100 := by unfold lvL; simp; omega
  have hlR : (lvR i k).length ≤ 100 := by unfold lvR; simp; omega
  have tx : ∀ e : List UInt8, e.length ≤ 100 → ∀ w', Calls Tryz.prog 24 #[.string ⟨e.toArray⟩] w' fun x w'' => x = .returned (.string ⟨(lvT e).toArray⟩) ∧ w' = w'' := fun e he w' =>
    text24 _ _ _ (cat_ok [116, 104, 114, 101, 97, 100, 32, 116, 32, 123, 32, 114, 32, 61, 32] e (by simp) (by omega)) (cat_ok ([116, 104, 114, 101, 97, 100, 32, 116, 32, 123, 32, 114, 32, 61, 32] ++ e) [59, 32, 125] (by simp; omega) (by simp)) w'
  have hpa := lv_a i k hi6 hk6
  unfold lvA at hpa
  by_cases h0 : lvl i = 0 ∧ lvl k = 0
  · rw [if_pos h0] at hpa
    rw [h0.1] at q3
    rw [h0.2] at q4
    have d1 := cat_ok [116, 104, 114, 101, 97, 100, 32, 116, 32, 123, 32, 114, 32, 61, 32, 120, 32] (op2 i) (by simp) (by omega)
    have d2 := cat_ok ([116, 104, 114, 101, 97, 100, 32, 116, 32, 123, 32, 114, 32, 61, 32, 120, 32] ++ op2 i) [32, 121, 32] (by simp; omega) (by simp)
    exact levA a b i k _ _ _ _ _ _ _ _ _ _ ha hb ei ek hi6 hk6 q1 q2 q3 q4 c1 c2 c3 c4 d1 d2 (by simp [ByteArray.size]; omega) w (tx _ hlE) (fun w' h => pr_err hpa (lvT_len hlE) w' (hlb.on h) (hlk.on h)) hA
  · rw [if_neg h0] at hpa
    have f1 := cat_ok [40, 120, 32] (op2 i) (by simp) (by omega)
    have f2 := cat_ok ([40, 120, 32] ++ op2 i) [32, 121, 41, 32] (by simp; omega) (by simp)
    have f3 := cat_ok ([40, 120, 32] ++ op2 i ++ [32, 121, 41, 32]) (op2 k) (by simp; omega) (by omega)
    have f4 := cat_ok ([40, 120, 32] ++ op2 i ++ [32, 121, 41, 32] ++ op2 k) [32, 122] (by simp; omega) (by simp)
    have hp : ∀ w', Below w.heap.size w w' → Calls Tryz.prog 18 #[.string ⟨(lvT (lvE i k)).toArray⟩] w' fun e w'' => ∃ p c, e = .returned (.tuple #[.agg #[.slice p 1 c], .int .i64 0, .int .i64 0]) ∧ DpsV w'' (Nw w'.heap.size w'') (lvD i k) p c ∧ Below w'.heap.size w' w'' := fun w' h => pr_ok hpa rfl (lvT_len hlE) w' (hlb.on h) (hlk.on h)
    have hs : ∀ w' p c q d, DpsV w' (Lt w') (lvD i k) p c → DpsV w' (Lt w') (lvD i k) q d → Calls Tryz.prog 20 #[.agg #[.slice p 1 c], .agg #[.slice q 1 d]] w' (Tt w') := fun w' p c q d h1 h2 => same20 (lvD i k) (lvD i k) (by simp [lvD]) (lvD_same i k hi6 hk6) p q c d w' h1 h2
    by_cases hlt : lvl i < lvl k
    · have g2 := cat_ok ([120, 32] ++ op2 i) [32, 40, 121, 32] (by simp; omega) (by simp)
      have g3 := cat_ok ([120, 32] ++ op2 i ++ [32, 40, 121, 32]) (op2 k) (by simp; omega) (by omega)
      have g4 := cat_ok ([120, 32] ++ op2 i ++ [32, 40, 121, 32] ++ op2 k) [32, 122, 41] (by simp; omega) (by simp)
      exact levC a b i k _ _ (lvD i k) _ _ _ _ _ _ _ _ _ _ _ _ _ _ _ ha hb ei ek hi6 hk6 q1 q2 q3 q4
        (by rcases lvl_cases i with h | h | h
            · exact .inl ⟨by omega, by simp; omega⟩
            · exact .inr (by simp; omega)
            · exact .inr (by simp; omega)) (by simp; omega) c1 c2 c3 c4 f1 f2 f3 f4 g2 g3 g4 w (tx _ hlE) (tx (lvR i k) hlR) hp (fun w' h => pr_ok (lv_r i k hi6 hk6 hlt) rfl (lvT_len hlR) w' (hlb.on h) (hlk.on h)) hs hA
    · exact levB a b i k _ _ (lvD i k) _ _ _ _ _ _ _ _ _ _ _ _ ha hb ei ek hi6 hk6 q1 q2 q3 q4 (by simp; omega) (by simp; omega) c1 c2 c3 c4 f1 f2 f3 f4 w (tx _ hlE) (tx (lvL i k) hlL) hp (fun w' h => pr_ok (lv_l i k hi6 hk6 h0 hlt) rfl (lvT_len hlL) w' (hlb.on h) (hlk.on h)) hs hA
end Go.Proofs.YtgiioflkclkioaaGreatDoor
