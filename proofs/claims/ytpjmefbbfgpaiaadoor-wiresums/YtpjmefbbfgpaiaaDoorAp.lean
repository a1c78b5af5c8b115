/- The law WireApart, walked: true at any four numbers. -/
import Derived.Test.YtpjmefbbfgpaiaaDoorAw
namespace Go.Proofs.YtpjmefbbfgpaiaaDoor
open Go.RowKit

theorem vnum_split (a : Nat) : ∀ (c : Nat) (r s : List Nat), vnum a ++ r = vnum c ++ s → a = c ∧ r = s := by
  induction a using Nat.strongRecOn with
  | _ a ih =>
    intro c r s h
    by_cases ha : a < 128 <;> by_cases hc : c < 128
    · rw [vnum_lo ha, vnum_lo hc] at h
      simpa using h
    · rw [vnum_lo ha, vnum_hi hc] at h
      simp only [List.cons_append, List.nil_append, List.cons.injEq] at h
      omega
    · rw [vnum_hi ha, vnum_lo hc] at h
      simp only [List.cons_append, List.nil_append, List.cons.injEq] at h
      omega
    · rw [vnum_hi ha, vnum_hi hc] at h
      simp only [List.cons_append, List.cons.injEq] at h
      obtain ⟨h1, h2⟩ := ih _ (by omega) _ _ _ h.2
      exact ⟨by omega, h2⟩

/-- What is put into a Writer of ours: the frame, from a world w0 in which it was not there. -/
theorem put_kept {w0 w1 w2 : World} {b : Nat} {v : Value} (k : Kept (fun _ => False) w0 w1) (h : Kept (fun k => k = b ∨ v.ownBlock = some k) w1 w2) (hb : w0.heap.size ≤ b) (hv : ∀ g, v.ownBlock = some g → w0.heap.size ≤ g) : Kept (fun _ => False) w0 w2 :=
  k.trans h (by
    rintro i hi (rfl | e)
    · omega
    · have := hv i e; omega)
theorem moved_ge {w0 w : World} {v v' : Value} (h : Moved w v v') (hv : ∀ g, v.ownBlock = some g → w0.heap.size ≤ g) (hk : w0.heap.size ≤ w.heap.size) : ∀ g, v'.ownBlock = some g → w0.heap.size ≤ g := by
  intro g e
  rcases h with h | ⟨g', h, hg⟩
  · exact hv g (h.symm.trans e)
  · rw [h] at e; injection e with e; omega

set_option maxRecDepth 100000 in
set_option maxHeartbeats 1600000 in
theorem apart_any (a b c d : Nat) (ha : Fits64 a) (hb : Fits64 b) (hc : Fits64 c) (hd : Fits64 d) (w : World) (ht : Tab w) :
    Calls Tryd.prog 9 #[.int .u64 a, .int .u64 b, .int .u64 c, .int .u64 d] w (Yes w) := by
  go_enter Tryd.func9, Tryd.ntmps9
  go_wp2_with fail
  refine (awake_any w ht).mono ?_
  rintro e w1 ⟨rfl, k1⟩
  have K1 := Lib.hid k1
  clear k1
  go_wp2_with fail
  have hv1 := (put_new w1).kept ((Kept.refl (fun _ => False) _).alloc (.cells #[.slice none 0 0] 26)) id (fun _ _ h => h)
  refine (num_any w1.heap.size _ _ a _ hv1 ha (by simp)).mono ?_
  rintro e w2 ⟨rfl, v2, hw2, hm2, hk2⟩
  go_wp2_with fail
  refine (num_any w1.heap.size _ _ b _ hw2 hb (by have := vnum_ten ha; simp; omega)).mono ?_
  rintro e w3 ⟨rfl, v3, hw3, hm3, hk3⟩
  rw [List.nil_append] at hw3
  -- the second writer is still new
  have hu1 : Wtr ((w1.alloc (.cells #[.slice none 0 0] 26)).alloc (.cells #[.slice none 0 0] 26)) (w1.heap.size + 1) (.slice none 0 0) [] := by
    have := put_new (w1.alloc (.cells #[.slice none 0 0] 26))
    simpa using this
  have hz2 : w1.heap.size + 2 ≤ w2.heap.size := by have := hk2.size; simp at this; omega
  have g2 : ∀ g, v2.ownBlock = some g → w1.heap.size + 2 ≤ g := by
    intro g e
    rcases hm2 with h | ⟨g', h, hg⟩
    · rw [e] at h; simp [Value.ownBlock] at h
    · rw [h] at e; injection e with e; simp at hg; omega
  have hu2 : Wtr w2 (w1.heap.size + 1) (.slice none 0 0) [] := hu1.kept hk2 (by simp [Value.ownBlock]) (by simp [Value.ownBlock])
  have hu3 : Wtr w3 (w1.heap.size + 1) (.slice none 0 0) [] := hu2.kept hk3 (by rintro (h | h); · omega
                                                                                · have := g2 _ h; omega) (by simp [Value.ownBlock])
  have hz3 : w2.heap.size ≤ w3.heap.size := hk3.size
  have g3 : ∀ g, v3.ownBlock = some g → w1.heap.size + 2 ≤ g := by
    intro g e
    rcases hm3 with h | ⟨g', h, hg⟩
    · exact g2 g (h.symm.trans e)
    · rw [h] at e; injection e with e; omega
  have hs2 : w1.heap.size ≤ w2.heap.size := by omega
  have K3 : Hid (Kept (fun _ => False) w w3) := by
    have s0 := K1.out.size
    have q2 : Kept (fun _ => False) w w2 := put_kept ((K1.out.alloc _).alloc _) hk2 s0 (by simp [Value.ownBlock])
    exact put_kept q2 hk3 s0 (fun g e => by have := g2 g e; omega)
  have s0 := K1.out.size
  have H3 := Lib.hid hw3
  have U3 := Lib.hid hu3
  have G3 := Lib.hid g3
  clear hv1 hw2 hm2 hk2 hw3 hm3 hk3 hu1 hu2 hu3 g2 g3 K1 hz3 hs2
  go_wp2_with fail
  refine (num_any (w1.heap.size + 1) _ _ c _ U3.out hc (by simp)).mono ?_
  rintro e w4 ⟨rfl, u4, hw4, hm4, hk4⟩
  have hv4 : Wtr w4 w1.heap.size v3 (vnum a ++ vnum b) := H3.out.kept hk4 (by simp [Value.ownBlock]) (fun g e => by have := G3.out g e; simp [Value.ownBlock]; omega)
  have n4 : ∀ g, u4.ownBlock = some g → w1.heap.size + 2 ≤ g ∧ v3.ownBlock ≠ some g := by
    intro g e
    rcases hm4 with h | ⟨g', h, hg⟩
    · rw [e] at h; simp [Value.ownBlock] at h
    · rw [h] at e
      injection e with e
      have l3 := H3.out.2.lt
      have z3 := U3.out.lt
      refine ⟨by omega, fun e2 => ?_⟩
      have := (l3 g e2).2
      omega
  have K4 := Lib.hid (put_kept K3.out hk4 (by omega) (by simp [Value.ownBlock]))
  have z4 := hk4.size
  have H4 := Lib.hid hv4
  have U4 := Lib.hid hw4
  have N4 := Lib.hid n4
  clear hv4 hw4 n4 hm4 hk4 H3 U3 K3
  go_wp2_with fail
  refine (num_any (w1.heap.size + 1) _ _ d _ U4.out hd (by have := vnum_ten hc; simp; omega)).mono ?_
  rintro e w5 ⟨rfl, u5, hw5, hm5, hk5⟩
  have hv5 : Wtr w5 w1.heap.size v3 (vnum a ++ vnum b) := H4.out.kept hk5 (by
    rintro (h | h)
    · omega
    · have := (N4.out _ h).1; omega) (fun g e => by
    rintro (h | h)
    · have := G3.out g e; omega
    · exact (N4.out g h).2 e)
  have K5 := Lib.hid (put_kept K4.out hk5 (by omega) (fun g e => by have := (N4.out g e).1; omega))
  have H5 := Lib.hid hv5
  have U5 := Lib.hid hw5
  clear hv5 hw5 hm5 hk5 H4 U4 K4 N4 G3 z4
  have L1 : (vnum a ++ vnum b).length ≤ 20 := by have := vnum_ten ha; have := vnum_ten hb; simp; omega
  have L2 : ([] ++ vnum c ++ vnum d).length ≤ 20 := by have := vnum_ten hc; have := vnum_ten hd; simp; omega
  generalize e1 : vnum a ++ vnum b = l1 at *
  generalize e2 : [] ++ vnum c ++ vnum d = l2 at *
  have E1 := Lib.hid e1
  have E2 := Lib.hid e2
  clear e1 e2
  go_wp2_with fail
  refine (bytes_any _ _ _ _ H5.out (by omega)).mono ?_
  rintro e w6 ⟨A6, c6, rfl, ho6, hg6, hc6, hk6⟩
  have K6 := Lib.hid (K5.out.trans hk6 (fun _ _ h => h))
  have R6 := Lib.hid (Rd.of_owns ho6)
  have U6 := Lib.hid (U5.out.kept hk6 id (fun _ _ h => h))
  clear ho6 hg6 hc6 hk6 K5 U5 H5
  go_wp2_with fail
  refine (bytes_any _ _ _ _ U6.out (by omega)).mono ?_
  rintro e w7 ⟨A7, c7, rfl, ho7, hg7, hc7, hk7⟩
  have K7 := Lib.hid (K6.out.trans hk7 (fun _ _ h => h))
  have R7 := Lib.hid (Rd.of_owns ho7)
  have Q7 := Lib.hid (R6.out.kept hk7 (fun _ _ h => h))
  clear ho7 hg7 hc7 hk7 K6 U6 R6
  go_wp2_with fail
  refine (equal_any _ _ _ _ _ _ _ Q7.out R7.out (by omega) (by omega)).mono ?_
  rintro e w8 ⟨rfl, q, hq⟩
  have K8 : Hid (Kept (fun _ => False) w w8) := by rw [hq]; exact Kept.drewN K7.out _
  clear hq K7 R7 Q7
  by_cases hac : a = c
  · subst hac
    by_cases hbd : b = d
    · subst hbd
      rw [sameB_of (by rw [← E1.out, ← E2.out]; simp)]
      go_wp2
      go_ret
      exact ⟨rfl, K8.out⟩
    · rw [sameB_not (by
        intro h
        rw [← E1.out, ← E2.out] at h
        exact hbd (by simpa using (vnum_split b d [] [] (by simpa using h)).1))]
      have hn : ((b : Int) == (d : Int)) = false := by rw [beq_eq_false_iff_ne]; omega
      go_wp2
      go_ret
      exact ⟨rfl, K8.out⟩
  · rw [sameB_not (by
      intro h
      rw [← E1.out, ← E2.out] at h
      simp only [List.nil_append] at h
      exact hac (vnum_split a c _ _ h).1)]
    have hn : ((a : Int) == (c : Int)) = false := by rw [beq_eq_false_iff_ne]; omega
    go_wp2
    go_ret
    exact ⟨rfl, K8.out⟩
end Go.Proofs.YtpjmefbbfgpaiaaDoor
