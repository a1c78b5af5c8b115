/- The law WireOne, walked: true at any number, any change of one byte, any cut. -/
import Derived.Test.YtpjmefbbfgpaiaaDoorVn
import Derived.Test.YtpjmefbbfgpaiaaDoorRw
namespace Go.Proofs.YtpjmefbbfgpaiaaDoor
open Go.RowKit

theorem bv_set (l : List Nat) (k y : Nat) : (bv l).set k (.int .u8 (y : Int)) = bv (l.set k y) := by simp [bv, List.map_set]
theorem xor8 {a b : Nat} (ha : a < 256) (hb : b < 256) : bits .xor .u8 (a : Int) (b : Int) = ((a ^^^ b : Nat) : Int) := u8_xor_nat a b ha hb
theorem xor_back (a b : Nat) : (a ^^^ b) ^^^ b = a := by rw [Nat.xor_assoc, Nat.xor_self, Nat.xor_zero]
theorem xor_ne {a b : Nat} (h : b ≠ 0) : a ^^^ b ≠ a := by
  intro e
  apply h
  have : a ^^^ (a ^^^ b) = a ^^^ a := by rw [e]
  rwa [← Nat.xor_assoc, Nat.xor_self, Nat.zero_xor] at this
theorem xor_lt256 {a b : Nat} (ha : a < 256) (hb : b < 256) : a ^^^ b < 256 := Nat.xor_lt_two_pow (n := 8) ha hb
theorem mem_set256 {l : List Nat} {k y : Nat} (h : ∀ b ∈ l, b < 256) (hy : y < 256) : ∀ b ∈ l.set k y, b < 256 := by
  intro b hb
  rcases List.mem_or_eq_of_mem_set hb with h' | h'
  · exact h b h'
  · omega

theorem read_n (A : Option Addr) (n c : Nat) (l : List Nat) (w : World) (hn : n = l.length) (hr : Rd w A l) (hA : A = none → c = 0) (hl : l.length ≤ 1000100) :
    Calls Tryd.prog 16 #[.slice A n c] w (NewRdr w l) := by
  subst hn
  exact read_any A c l w hr hA hl

/-- What the second half of the law needs: the bytes l lie at (g, c), and all that was there ahead is there. -/
structure OneAt (w w6 : World) (g c k y : Nat) (l : List Nat) : Prop where
  own : w6.ownsRow 0 5 1 (.slice (some ⟨g, 0, none⟩) l.length c) l.length (bv l)
  kp : Kept (fun _ => False) w w6
  cell : w6.cell? ⟨g, k, none⟩ = some (.int .u8 (y : Int))
  fro : w6.frozen? ⟨g, k, none⟩ = false
theorem OneAt.mk_ {w w6 : World} {g c k : Nat} {l : List Nat} (own : w6.ownsRow 0 5 1 (.slice (some ⟨g, 0, none⟩) l.length c) l.length (bv l)) (kp : Kept (fun _ => False) w w6) (hk : k < l.length) : OneAt w w6 g c k (l.getD k 0) l :=
  ⟨own, kp, (own.cellAt k (by omega)).trans (bv_get l k hk), own.frozenAt k⟩

theorem OneAt.next {w w5 w6 : World} {g c k y b : Nat} {l : List Nat} (h : OneAt w w5 g c k y l) (hk : Kept (fun i => i = b) w5 w6) (hg : g ≠ b) (hb : w.heap.size ≤ b) : OneAt w w6 g c k y l :=
  ⟨owns_kept h.own hk (fun g' e e2 => hg (by have : g = g' := by simpa [Value.ownBlock] using e
                                             omega)), h.kp.trans hk (fun i hi e => absurd hi (by omega)),
   by rw [hk.cell (p := ⟨g, k, none⟩) (h.own.lt g rfl).2 hg]; exact h.cell, by rw [hk.frozen (p := ⟨g, k, none⟩) (h.own.lt g rfl).2 hg]; exact h.fro⟩
theorem OneAt.back {w w5 : World} {g c k y : Nat} {l : List Nat} {x : Nat} (h : OneAt w w5 g c k y l) : (w5.setCell ⟨g, k, none⟩ (.int .u8 (x : Int))).ownsRow 0 5 1 (.slice (some ⟨g, 0, none⟩) (l.set k x).length c) (l.set k x).length (bv (l.set k x)) := by
  have := (h.own.stored k (.int .u8 (x : Int))).1
  rw [bv_set] at this
  rw [List.length_set]
  exact this
theorem OneAt.drewN {w w5 : World} {g c k y : Nat} {l : List Nat} (h : OneAt w w5 g c k y l) (q : Nat) : OneAt w (w5.drewN q) g c k y l := ⟨h.own, h.kp.drewN q, h.cell, h.fro⟩

set_option maxRecDepth 100000 in
set_option maxHeartbeats 3200000 in
theorem one_any (n at_ by_ cut : Nat) (hn : Fits64 n) (ha : at_ < 256) (hb : by_ < 256) (hc : cut < 256) (w : World) (ht : Tab w) :
    Calls Tryd.prog 6 #[.int .u64 n, .int .u8 at_, .int .u8 by_, .int .u8 cut] w (Yes w) := by
  go_enter Tryd.func6, Tryd.ntmps6
  go_wp2_with fail
  refine (awake_any w ht).mono ?_
  rintro e w1 ⟨rfl, k1⟩
  have K1 := Lib.hid k1
  clear k1
  go_wp2_with fail
  refine (num_any w1.heap.size _ _ n _ (put_new w1) hn (by simp)).mono ?_
  rintro e w2 ⟨rfl, v2, hw2, hm2, hk2⟩
  have K2 := Lib.hid (put_kept (K1.out.alloc _) hk2 K1.out.size (by simp [Value.ownBlock]))
  have H2 := Lib.hid hw2
  clear hw2 hm2 hk2 K1
  rw [List.nil_append] at H2
  have L : (vnum n).length ≤ 10 := vnum_ten hn
  have P := vnum_pos n
  have hby := Lib.hid (vnum_byte n)
  have hcut := Lib.hid (fun j => vread_cut n j hn)
  obtain ⟨l, hl⟩ : ∃ l, vnum n = l := ⟨_, rfl⟩
  rw [hl] at H2 L P hby hcut
  have HL := Lib.hid hl
  clear hl
  go_wp2_with fail
  refine (bytes_any _ _ _ _ H2.out (by omega)).mono ?_
  rintro e w3 ⟨A3, c3, rfl, ho3, hg3, hc3, hk3⟩
  obtain ⟨g, cap, e3, _, _⟩ := ho3.form P
  injection e3 with eA _ ec
  subst eA ec
  have hge : w2.heap.size ≤ g := hg3 g rfl
  have K3 := Lib.hid (K2.out.trans hk3 (fun _ _ h => h))
  have z2 := K2.out.size
  have hlne : ((l.length : Int) == 0) = false := by rw [beq_eq_false_iff_ne]; omega
  obtain ⟨k, hk⟩ : ∃ k, at_ % l.length = k := ⟨_, rfl⟩
  have hkl : k < l.length := by rw [← hk]; exact Nat.mod_lt _ P
  have hki : ((at_ : Int).tmod (l.length : Int)) = (k : Int) := by rw [← hk]; rfl
  have hki2 : ((at_ : Int) % (l.length : Int)) = (k : Int) := by rw [← hk]; rfl
  have hcell := (ho3.cellAt k (by omega)).trans (bv_get l k hkl)
  have hfro := ho3.frozenAt k
  have hx256 : l.getD k 0 < 256 := hby.out _ (by simp [List.getD, List.getElem?_eq_getElem hkl])
  obtain ⟨x, hx⟩ : ∃ x, l.getD k 0 = x := ⟨_, rfl⟩
  rw [hx] at hcell hx256
  have hxor := xor8 hx256 hb
  have hy256 := xor_lt256 hx256 hb
  obtain ⟨y, hy⟩ : ∃ y, x ^^^ by_ = y := ⟨_, rfl⟩
  rw [hy] at hxor hy256
  have hxor2 := xor8 hy256 hb
  rw [← hy, xor_back, hy] at hxor2
  have O3 := Lib.hid ho3
  have HX := Lib.hid hx
  have HY := Lib.hid hy
  clear ho3 hg3 hc3 hk3 H2 K2 hk hx hy
  go_wp2_with fail
  have hll : (l.set k y).length = l.length := by simp
  have hgy : (l.set k y).getD k 0 = y := by simp [List.getD, hkl]
  have hset := Lib.hid (mem_set256 (k := k) hby.out hy256)
  have O4 : Hid (OneAt w (w3.setCell ⟨g, k, none⟩ (.int .u8 (y : Int))) g c3 k y (l.set k y)) := by
    have h := (O3.out.stored k (.int .u8 (y : Int))).1
    rw [bv_set] at h
    have := OneAt.mk_ (w := w) (k := k) (l := l.set k y) (by rw [hll]; exact h) (K3.out.setCell (p := ⟨g, k, none⟩) (fun h => by simp at h; omega) _) (by rw [hll]; exact hkl)
    rw [hgy] at this
    exact this
  clear hcell hfro hgy
  generalize hw4 : w3.setCell { block := g, off := k } (Value.int IntKind.u8 (y : Int)) = w4 at *
  clear hw4 O3 K3
  obtain ⟨l4, hl4⟩ : ∃ l4, l.set k y = l4 := ⟨_, rfl⟩
  rw [hl4] at O4 hll hset
  have HL4 := Lib.hid hl4
  clear hl4
  refine (read_n _ _ _ l4 _ hll.symm (Rd.of_owns O4.out.own) (by simp) (by omega)).mono ?_
  rintro e w5 ⟨b5, A5, c5, rfl, hb5, hr5, hg5, hk5⟩
  have O5 : Hid (OneAt w w5 g c3 k y l4) := by
    have := OneAt.mk_ (w := w) (k := k) (owns_kept O4.out.own hk5 (fun _ _ h => h)) (O4.out.kp.trans hk5 fun _ _ h => h) (by omega)
    exact ⟨this.own, this.kp, by rw [hk5.cell (p := ⟨g, k, none⟩) (O4.out.own.lt g rfl).2 id]; exact O4.out.cell, this.fro⟩
  have z4 := O4.out.kp.size
  have gl4 := (O4.out.own.lt g rfl).2
  have R5 := Lib.hid hr5
  have zb5 : w.heap.size ≤ b5 := by omega
  clear hb5 hr5 hk5 hg5
  obtain ⟨r, hr⟩ : ∃ r, vread l4 = r := ⟨_, rfl⟩
  obtain ⟨x1, x2, x3⟩ := r
  have hcase : by_ = 0 ∨ (by_ ≠ 0 ∧ x1 ≠ n) ∨ (by_ ≠ 0 ∧ x1 = n ∧ x2 ≠ l4.length) ∨ (by_ ≠ 0 ∧ x1 = n ∧ x2 = l4.length ∧ x3 ≠ 0) := by
    by_cases h0 : by_ = 0
    · exact .inl h0
    · by_cases h1 : x1 = n
      · by_cases h2 : x2 = l4.length
        · by_cases h3 : x3 = 0
          · exfalso
            subst h1 h2 h3
            have e1 := vread_only hset.out hr
            rw [HL.out] at e1
            have e2 : (l.set k y).getD k 0 = x := by rw [HL4.out, e1]; exact HX.out
            have e3 : (l.set k y).getD k 0 = y := by simp [List.getD, hkl]
            exact xor_ne h0 (HY.out.trans (e3.symm.trans e2))
          · exact .inr (.inr (.inr ⟨h0, h1, h2, h3⟩))
        · exact .inr (.inr (.inl ⟨h0, h1, h2⟩))
      · exact .inr (.inl ⟨h0, h1⟩)
  have HR := Lib.hid hr
  clear hr
  have gb5 : g ≠ b5 := by
    intro e
    have h1 := R5.out.1
    rcases O5.out.own.2 with ⟨e', _⟩ | ⟨g', cap', cur, e', _, hh, _⟩
    · cases e'
    · injection e' with e' _ _
      injection e' with e'
      injection e' with e'
      subst e' e
      rw [h1] at hh
      injection hh with hh
      injection hh with _ ht
      exact absurd ht (by decide)
  have hnum : Hid (Calls Tryd.prog 18 #[.pointer (some ⟨b5, 0, none⟩)] w5 (Took w5 b5 A5 c5 l4 x2 x3 (.int .u64 (x1 : Int)))) := by
    have := rdnum_any b5 A5 c5 l4 0 w5 R5.out (by omega) hset.out
    rw [List.drop_zero, HR.out] at this
    simpa [Hid] using this
  obtain ⟨j, hj⟩ : ∃ j, cut % l.length = j := ⟨_, rfl⟩
  have hjl : j < l.length := by rw [← hj]; exact Nat.mod_lt _ P
  have hji : ((cut : Int).tmod (l.length : Int)) = (j : Int) := by rw [← hj]; rfl
  have hji2 : ((cut : Int) % (l.length : Int)) = (j : Int) := by rw [← hj]; rfl
  have hcap := owns_cap O4.out.own
  rw [hll] at hcap
  have hback : Hid (l4.set k x = l) := by
    rw [Hid, ← HL4.out, List.set_set]
    have : x = l[k] := by rw [← HX.out]; simp [List.getD, List.getElem?_eq_getElem hkl]
    rw [this, List.set_getElem_self]
  clear hj
  rcases hcase with d1 | ⟨d0, d1⟩ | ⟨d0, d1, d2⟩ | ⟨d0, d1, d2, d3⟩
  case' inl =>
    have hbn : ((by_ : Int) != 0) = false := by simp [d1]
    have CE := Lib.hid d1
    have hce := O5.out.cell
    have hfr := O5.out.fro
    have O6 := O5
    clear d1
    go_wp2_with fail
  case' inr.inl =>
    have hbn : ((by_ : Int) != 0) = true := by rw [bne_iff_ne]; omega
    go_wp2_with fail
    refine hnum.out.mono ?_
    rintro e w6 ⟨rfl, hr6, hk6⟩
    have hne : ((x1 : Int) == (n : Int)) = false := by rw [beq_eq_false_iff_ne]; omega
    have O6 := Lib.hid (O5.out.next hk6 gb5 zb5)
    have hce := O6.out.cell
    have hfr := O6.out.fro
    clear hr6 hk6
    go_wp2_with fail
  case' inr.inr.inl =>
    have hbn : ((by_ : Int) != 0) = true := by rw [bne_iff_ne]; omega
    go_wp2_with fail
    refine hnum.out.mono ?_
    rintro e w6 ⟨rfl, hr6, hk6⟩
    have hne : ((x1 : Int) == (n : Int)) = true := by rw [beq_iff_eq]; omega
    have O6' := Lib.hid (O5.out.next hk6 gb5 zb5)
    have R6 := Lib.hid hr6
    have hx2 := hr6.2.2
    clear hr6 hk6
    go_wp2_with fail
    refine (left_any _ _ _ _ _ _ _ R6.out (by omega)).mono ?_
    rintro e w7 ⟨rfl, q, rfl⟩
    have hn2 : (((l4.length - x2 : Nat) : Int) == 0) = false := by rw [beq_eq_false_iff_ne]; omega
    have O6 := Lib.hid (O6'.out.drewN q)
    have hce := O6'.out.cell
    have hfr := O6'.out.fro
    clear O6'
    generalize l4.length - x2 = z at *
    go_wp2_with fail
  case' inr.inr.inr =>
    have hbn : ((by_ : Int) != 0) = true := by rw [bne_iff_ne]; omega
    go_wp2_with fail
    refine hnum.out.mono ?_
    rintro e w6 ⟨rfl, hr6, hk6⟩
    have hne : ((x1 : Int) == (n : Int)) = true := by rw [beq_iff_eq]; omega
    have O6' := Lib.hid (O5.out.next hk6 gb5 zb5)
    have R6 := Lib.hid hr6
    clear hr6 hk6
    go_wp2_with fail
    refine (left_any _ _ _ _ _ _ _ R6.out (by omega)).mono ?_
    rintro e w7 ⟨rfl, q, rfl⟩
    have hn2 : (((l4.length - x2 : Nat) : Int) == 0) = true := by rw [beq_iff_eq]; omega
    have O6 := Lib.hid (O6'.out.drewN q)
    have hce := O6'.out.cell
    have hfr := O6'.out.fro
    have R7 := Lib.hid (R6.out.drewN q)
    clear O6' R6
    generalize l4.length - x2 = z at *
    go_wp2_with fail
    refine (err_any _ _ _ _ _ _ _ R7.out).mono ?_
    rintro e w8 ⟨rfl, rfl⟩
    have hn3 : ((x3 : Int) == 0) = false := by rw [beq_eq_false_iff_ne]; omega
    go_wp2_with fail
  all_goals
    have S6 := O6.out.back (x := x)
    rw [hback.out] at S6
    have hge2 : w.heap.size ≤ g := by omega
    have K7 := Lib.hid (O6.out.kp.setCell (p := ⟨g, k, none⟩) (fun h => absurd (show g < w.heap.size from h) (by omega)) (.int .u8 (x : Int)))
    refine (read_n _ j c3 (l.take j) _ (by simp; omega) ((Rd.of_owns S6).take j) (by simp) (by simp; omega)).mono ?_
    rintro e w9 ⟨b9, A9, c9, rfl, hb9, hr9, hg9, hk9⟩
    have K9 := Lib.hid (K7.out.trans hk9 (fun _ _ h => h))
    have hz9 := K7.out.size
    have hb9' : w.heap.size ≤ b9 := Nat.le_trans hz9 hb9
    have hnum9 : Hid (Calls Tryd.prog 18 #[.pointer (some ⟨b9, 0, none⟩)] w9 (Took w9 b9 A9 c9 (l.take j) 0 3 (.int .u64 0))) := by
      have := rdnum_any b9 A9 c9 (l.take j) 0 w9 hr9 (by simp; omega) (fun b hb => hby.out b (List.mem_of_mem_take hb))
      rw [List.drop_zero, hcut.out j hjl] at this
      simpa [Hid] using this
    clear hr9 hg9 hk9 hb9 S6 hce hfr
    go_wp2_with fail
    refine hnum9.out.mono ?_
    rintro e w10 ⟨rfl, hr10, hk10⟩
    have K10 := Lib.hid (K9.out.trans hk10 (fun i hi e => absurd hi (by omega)))
    have R10 := Lib.hid hr10
    clear hr10 hk10
    go_wp2_with fail
    refine (err_any _ _ _ _ _ _ _ R10.out).mono ?_
    rintro e w11 ⟨rfl, rfl⟩
    go_wp2_with fail
    refine (at_any _ _ _ _ _ _ _ R10.out).mono ?_
    rintro e w12 ⟨rfl, rfl⟩
    go_wp2
    go_ret
    exact ⟨rfl, K10.out⟩
end Go.Proofs.YtpjmefbbfgpaiaaDoor
