/- Layer 5's fixed fact. -/
import Derived.Test.YtgiioflkclkioaaGreatDoorPz
import Derived.Test.YtgiioflkclkioaaGreatDoorLv
set_option linter.unusedSimpArgs false
set_option linter.unusedVariables false
namespace Go.Proofs.YtgiioflkclkioaaGreatDoor
open Go.RowKit Ieee

theorem flA : fl false 1 = 4607182418800017408 ∧ fl false (-2) = 13835058055282163712 := by constructor <;> decide +kernel
set_option maxRecDepth 100000 in
set_option maxHeartbeats 6400000 in
theorem awake5 (w : World) (hb : Lb w) (hlk : Lk w) : Calls Tryz.prog 15 #[] w fun e w' => e = .returned (.bool true) ∧ Below w.heap.size w w' := by
  have H1 := Lib.hid (fun w' (h : Below w.heap.size w w') => parseP_any ⟨txtA.toArray⟩ (by decide) w' (hb.on h) (hlk.on h))
  have H2 := Lib.hid (fun w' (h : Below w.heap.size w w') => parseP_any ⟨#[120]⟩ (by decide) w' (hb.on h) (hlk.on h))
  have H3 := Lib.hid (fun w' (h : Below w.heap.size w w') => awake w' (hb.on h))
  have e1 : (⟨txtA.toArray⟩ : ByteArray).data.toList = txtA := rfl
  have e2 : (⟨#[120]⟩ : ByteArray).data.toList = [120] := rfl
  rw [e1, awake_a] at H1
  rw [e2, awake_b] at H2
  unfold PR at H1 H2
  unfold txtA at H1
  simp only [List.length_cons, List.length_nil, Nat.zero_add, Nat.reduceAdd, Int.cast_ofNat_Int] at H1 H2
  have hst := store_cx
  clear hb hlk e1 e2
  go_enter Tryz.func15, Tryz.ntmps15
  go_wp2_with fail
  refine (H1.out _ (Below.refl _ _)).mono ?_
  rintro en w1 ⟨p, c, rfl, hdv, hb1⟩
  rcases hdv with ⟨h, _⟩ | ⟨g, rfl, hg, _, _, _, hd⟩
  · cases h
  obtain ⟨p0, c0, ⟨_, _, x2, _, _⟩, _⟩ := hd 0 _ rfl
  obtain ⟨p1, c1, ⟨_, _, _, y3, _⟩, _⟩ := hd 1 _ rfl
  simp only [Nat.zero_mul, Nat.zero_add, Nat.one_mul, Nat.reduceAdd, Pt.len] at x2 y3
  rw [flA.1, flA.2] at x2
  have HB1 := Lib.hid hb1
  have HX2 := Lib.hid x2
  have HY3 := Lib.hid y3
  have hg1 : g < w1.heap.size := hg.2
  clear hd hg hb1 x2 y3
  go_wp2_with fail
  refine (H2.out _ (below_tr HB1.out (below_alloc _ _))).mono ?_
  rintro en w2 ⟨rfl, hb2⟩
  have hk0 : w2.cell? ⟨w1.heap.size, 0, none⟩ = some (.slice (some ⟨g, 0, none⟩) 2 c) := nb_cell hb2 0
  have hx : w2.cell? ⟨g, 2, none⟩ = some (.complex .f64 4607182418800017408 13835058055282163712) := ((below_new hb2).cell (p := ⟨g, 2, none⟩) hg1).trans HX2.out
  have hy : w2.cell? ⟨g, 8, none⟩ = some (.slice p1 1 c1) := ((below_new hb2).cell (p := ⟨g, 8, none⟩) hg1).trans HY3.out
  have hz : w1.heap.size < w2.heap.size := by have := hb2.size; simp at this; omega
  have hg2 : g < w2.heap.size := by omega
  have HB2 := Lib.hid (below_tr HB1.out (below_new hb2))
  have q0 : Op.floatEq .f64 4607182418800017408 4607182418800017408 = true := by decide +kernel
  have q1 : Op.floatEq .f64 13835058055282163712 13835058055282163712 = true := by decide +kernel
  clear hb2
  go_wp2_with fail
  refine (H3.out _ (below_tr HB2.out (below_alloc _ _))).mono ?_
  rintro en w3 ⟨rfl, hb3⟩
  have HB3 := Lib.hid (below_tr HB2.out (below_new hb3))
  clear hb3
  go_wp2
  go_ret
  exact ⟨rfl, HB3.out⟩
end Go.Proofs.YtgiioflkclkioaaGreatDoor
