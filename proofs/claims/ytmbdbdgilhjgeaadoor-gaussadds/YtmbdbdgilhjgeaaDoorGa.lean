/- The law GaussAdds, walked: true at any two pairs. -/
import Derived.Test.YtmbdbdgilhjgeaaDoorNs
set_option linter.unusedSimpArgs false
set_option linter.unusedVariables false
namespace Go.Proofs.YtmbdbdgilhjgeaaDoor
open Go.RowKit Ieee

theorem bcell {W w1 : World} (hb : Below W.heap.size W w1) : (∀ b o, b < W.heap.size → w1.cell? ⟨b, o, none⟩ = W.cell? ⟨b, o, none⟩) ∧ (∀ b o, b < W.heap.size → w1.frozen? ⟨b, o, none⟩ = W.frozen? ⟨b, o, none⟩) :=
  ⟨fun b o h => hb.cell (p := ⟨b, o, none⟩) h, fun b o h => hb.frozen (p := ⟨b, o, none⟩) h⟩
theorem below_alloc (w : World) (o : Obj) : Below w.heap.size w (w.alloc o) := (Below.refl _ _).alloc (Nat.le_refl _) o

theorem inb {B : Nat} {n : Int} (h : Bd B n) : -(B : Int) ≤ n ∧ n ≤ B := by unfold Bd at h; omega

set_option maxRecDepth 100000 in
set_option maxHeartbeats 1600000 in
theorem adds_any (a b c d : Int) (ha : I32 a) (hb : I32 b) (hc : I32 c) (hd : I32 d) (w : World) (ht : Tb w) : Calls Tryd.prog 3 #[pr a b, pr c d] w (Yes w) := by
  go_enter Tryd.func3, Tryd.ntmps3
  go_wp2_with (go_at_call 13; refine Hid.out ?_)
  have k0 : Below w.heap.size w ((w.alloc (.cells #[.int .i32 a, .int .i32 b] 23)).alloc (.cells #[.int .i32 c, .int .i32 d] 23)) := below_trans (below_alloc _ _) (below_alloc _ _)
  have ht0 := ht.on k0
  refine Lib.hid ((awake_any _ ht0).mono ?_)
  rintro e w1 ⟨rfl, k1⟩
  obtain ⟨c1, f1⟩ := bcell k1
  have z1 : w.heap.size + 1 < w1.heap.size := by have := k1.size; simp at this; omega
  have K1 := Lib.hid (below_trans k0 k1)
  clear k0 k1 ht0
  go_wp2_with (go_at_call 14; refine Hid.out ?_)
  refine Lib.hid ((near_any a b ha hb _).mono ?_)
  rintro e w2 ⟨rfl, k2⟩
  obtain ⟨c2, f2⟩ := bcell k2
  have K2 := Lib.hid (below_trans K1.out k2)
  clear k2 K1
  go_wp2_with (go_at_call 14; refine Hid.out ?_)
  refine Lib.hid ((near_any c d hc hd _).mono ?_)
  rintro e w3 ⟨rfl, k3⟩
  have K3 := Lib.hid (below_trans K2.out k3)
  clear k3 K2 c1 f1 c2 f2 z1
  have r1 : Bd 1049999 (a.tmod 1050000) := tmod_bd a 1050000 (by omega)
  have r2 : Bd 1049999 (b.tmod 1050000) := tmod_bd b 1050000 (by omega)
  have r3 : Bd 1049999 (c.tmod 1050000) := tmod_bd c 1050000 (by omega)
  have r4 : Bd 1049999 (d.tmod 1050000) := tmod_bd d 1050000 (by omega)
  generalize a.tmod 1050000 = r at *
  generalize b.tmod 1050000 = i at *
  generalize c.tmod 1050000 = s at *
  generalize d.tmod 1050000 = k at *
  have s1 := r1.sm (by decide)
  have s2 := r2.sm (by decide)
  have s3 := r3.sm (by decide)
  have s4 := r4.sm (by decide)
  have p1 := r1.mul r3
  have p2 := r2.mul r4
  have p3 := r1.mul r4
  have p4 := r2.mul r3
  have t1 := (r1.add r3).sm (by decide)
  have t2 := (r2.add r4).sm (by decide)
  have t3 := (r1.sub r3).sm (by decide)
  have t4 := (r2.sub r4).sm (by decide)
  have t5 := (p1.sub p2).sm (by decide)
  have t6 := (p3.add p4).sm (by decide)
  obtain ⟨u1, v1⟩ := inb r1
  obtain ⟨u2, v2⟩ := inb r2
  obtain ⟨u3, v3⟩ := inb r3
  obtain ⟨u4, v4⟩ := inb r4
  obtain ⟨u5, v5⟩ := inb p1
  obtain ⟨u6, v6⟩ := inb p2
  obtain ⟨u7, v7⟩ := inb p3
  obtain ⟨u8, v8⟩ := inb p4
  clear r1 r2 r3 r4 p1 p2 p3 p4
  have key : ∀ m p q, (ok2 r i && ok2 s k) = m → (m && ok2 p q) = both r i s k p q := by
    intro m p q h; subst h; rfl
  cases h1 : ok2 r i with
  | false =>
    have Q := Lib.hid (fun p q => key false p q (by simp [h1]))
    clear key
    go_wp2_with (first
      | (go_at_call 15; refine (number_any _ _ _).mono ?_; rintro e w' ⟨rfl, rfl⟩)
      | (go_at_call 16; refine (refFits_any _ _ _).mono ?_; rintro e w' ⟨rfl, rfl⟩)
      | (go_at_call 17; refine (add_any _ _ _ _ (by assumption) (by assumption) (by assumption) (by assumption) _).mono ?_; rintro e w' ⟨rfl, rfl⟩)
      | (go_at_call 18; refine (sub_any _ _ _ _ (by assumption) (by assumption) (by assumption) (by assumption) _).mono ?_; rintro e w' ⟨rfl, rfl⟩)
      | (go_at_call 19; refine (mul_any _ _ _ _ (by assumption) (by assumption) (by assumption) (by assumption) _).mono ?_; rintro e w' ⟨rfl, rfl⟩)
      | (go_at_call 20; refine (is_any _ _ _ _ (by assumption) (by assumption) (Q.out _ _) _).mono ?_; rintro e w' ⟨rfl, rfl⟩))
    go_ret
    exact ⟨rfl, K3.out⟩
  | true =>
    cases h2 : ok2 s k with
    | false =>
      have Q := Lib.hid (fun p q => key false p q (by simp [h1, h2]))
      clear key
      go_wp2_with (first
        | (go_at_call 15; refine (number_any _ _ _).mono ?_; rintro e w' ⟨rfl, rfl⟩)
        | (go_at_call 16; refine (refFits_any _ _ _).mono ?_; rintro e w' ⟨rfl, rfl⟩)
        | (go_at_call 17; refine (add_any _ _ _ _ (by assumption) (by assumption) (by assumption) (by assumption) _).mono ?_; rintro e w' ⟨rfl, rfl⟩)
        | (go_at_call 18; refine (sub_any _ _ _ _ (by assumption) (by assumption) (by assumption) (by assumption) _).mono ?_; rintro e w' ⟨rfl, rfl⟩)
        | (go_at_call 19; refine (mul_any _ _ _ _ (by assumption) (by assumption) (by assumption) (by assumption) _).mono ?_; rintro e w' ⟨rfl, rfl⟩)
        | (go_at_call 20; refine (is_any _ _ _ _ (by assumption) (by assumption) (Q.out _ _) _).mono ?_; rintro e w' ⟨rfl, rfl⟩))
      go_ret
      exact ⟨rfl, K3.out⟩
    | true =>
      have Q := Lib.hid (fun p q => key true p q (by simp [h1, h2]))
      clear key
      go_wp2_with (first
        | (go_at_call 15; refine (number_any _ _ _).mono ?_; rintro e w' ⟨rfl, rfl⟩)
        | (go_at_call 16; refine (refFits_any _ _ _).mono ?_; rintro e w' ⟨rfl, rfl⟩)
        | (go_at_call 17; refine (add_any _ _ _ _ (by assumption) (by assumption) (by assumption) (by assumption) _).mono ?_; rintro e w' ⟨rfl, rfl⟩)
        | (go_at_call 18; refine (sub_any _ _ _ _ (by assumption) (by assumption) (by assumption) (by assumption) _).mono ?_; rintro e w' ⟨rfl, rfl⟩)
        | (go_at_call 19; refine (mul_any _ _ _ _ (by assumption) (by assumption) (by assumption) (by assumption) _).mono ?_; rintro e w' ⟨rfl, rfl⟩)
        | (go_at_call 20; refine (is_any _ _ _ _ (by assumption) (by assumption) (Q.out _ _) _).mono ?_; rintro e w' ⟨rfl, rfl⟩))
      go_ret
      exact ⟨rfl, K3.out⟩
end Go.Proofs.YtmbdbdgilhjgeaaDoor
