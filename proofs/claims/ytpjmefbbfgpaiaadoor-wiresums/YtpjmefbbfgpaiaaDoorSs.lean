/- The law WireSums, walked: true at any bytes, any bit. -/
import Derived.Test.YtpjmefbbfgpaiaaDoorRs
import Derived.Test.YtpjmefbbfgpaiaaDoorOn
namespace Go.Proofs.YtpjmefbbfgpaiaaDoor
open Go.RowKit

theorem sum_n (A : Option Addr) (n c : Nat) (l : List Nat) (w : World) (hn : n = l.length) (hr : Rd w A l) (ht : Tab w) (hl : l.length ≤ 1000000) (hby : ∀ b ∈ l, b < 256) :
    Calls Tryd.prog 23 #[.slice A n c] w fun e w' => e = .returned (.int .u32 (sumOf l : Nat)) ∧ w = w' := by
  subst hn
  exact sum_any A c l w hr ht hl hby
theorem pow_bit (m : Nat) (h : m < 8) : (2 : Int) ^ m % 256 = ((2 ^ m : Nat) : Int) ∧ 2 ^ m < 256 ∧ 2 ^ m ≠ 0 := by
  have : m = 0 ∨ m = 1 ∨ m = 2 ∨ m = 3 ∨ m = 4 ∨ m = 5 ∨ m = 6 ∨ m = 7 := by omega
  rcases this with rfl | rfl | rfl | rfl | rfl | rfl | rfl | rfl <;> decide

set_option maxRecDepth 100000 in
set_option maxHeartbeats 1600000 in
theorem sums_any (A : Option Addr) (c : Nat) (l : List Nat) (at_ : Nat) (w : World) (hr : Rd w A l) (hA : A = none → c = 0) (hby : ∀ b ∈ l, b < 256) (ha : at_ < 65536) (ht : Tab w) :
    Calls Tryd.prog 7 #[.slice A l.length c, .int .u16 (at_ : Int)] w (Yes w) := by
  have HB := Lib.hid hby
  have HA := Lib.hid hA
  clear hby hA
  go_enter Tryd.func7, Tryd.ntmps7
  go_wp2_with fail
  refine (awake_any w ht).mono ?_
  rintro e w1 ⟨rfl, k1⟩
  have K1 := Lib.hid k1
  have R1 := Lib.hid (hr.kept k1 fun _ _ f => f)
  have T1 := Lib.hid (ht.kept k1 id)
  clear k1 hr ht
  by_cases h500 : 500 < l.length
  · go_wp2
    go_ret
    exact ⟨rfl, K1.out⟩
  have hl : l.length ≤ 500 := by omega
  clear h500
  go_wp2_with fail
  refine (sum_any _ _ _ _ R1.out T1.out (by omega) HB.out).mono ?_
  rintro e w2 ⟨rfl, rfl⟩
  go_wp2_with fail
  refine (rsum_any _ _ _ _ R1.out (by omega) HB.out).mono ?_
  rintro e w2 ⟨rfl, rfl⟩
  obtain ⟨S, hS⟩ : ∃ S, sumOf l = S := ⟨_, rfl⟩
  rw [hS]
  have HS := Lib.hid hS
  clear hS
  by_cases h0 : l.length = 0
  · have hz : ((l.length : Int) == 0) = true := by simp [h0]
    have H0 := Lib.hid h0
    clear h0
    go_wp2
    go_ret
    exact ⟨rfl, K1.out⟩
  have hz : ((l.length : Int) == 0) = false := by rw [beq_eq_false_iff_ne]; omega
  have hpos : 0 < l.length := by omega
  clear h0
  go_wp2_with fail
  refine (clone_any _ _ _ _ R1.out HA.out (by omega)).mono ?_
  rintro e w3 ⟨A3, c3, rfl, ho3, hg3, hc3, hk3⟩
  obtain ⟨g, cap, e3, _, _⟩ := ho3.form hpos
  injection e3 with eA _ ec
  subst eA ec
  have hge : w1.heap.size ≤ g := hg3 g rfl
  have z1 := K1.out.size
  have K3 := Lib.hid (K1.out.trans hk3 (fun _ _ h => h))
  have KK := Lib.hid (hk3.mono (T := fun i => i = g) (fun _ _ h => h.elim))
  have R3 := Lib.hid (R1.out.kept hk3 (fun _ _ f => f))
  have T3 := Lib.hid (T1.out.kept hk3 id)
  have O3 := Lib.hid ho3
  obtain ⟨k, hk⟩ : ∃ k, at_ % (8 * l.length) = k := ⟨_, rfl⟩
  have hkl : k < 8 * l.length := by rw [← hk]; exact Nat.mod_lt _ (by omega)
  have hki : ((at_ : Int).tmod (8 * (l.length : Int))) = (k : Int) := by
    rw [← hk]
    have e : (8 * (l.length : Int)) = ((8 * l.length : Nat) : Int) := by omega
    rw [e]; rfl
  have hki2 : ((at_ : Int) % (8 * (l.length : Int))) = (k : Int) := by
    rw [← hk]
    have e : (8 * (l.length : Int)) = ((8 * l.length : Nat) : Int) := by omega
    rw [e]; rfl
  clear hk
  have hq : k / 8 < l.length := by omega
  have hcell := (ho3.cellAt (k / 8) (by omega)).trans (bv_get l (k / 8) hq)
  have hfro := ho3.frozenAt (k / 8)
  obtain ⟨x, hx⟩ : ∃ x, l.getD (k / 8) 0 = x := ⟨_, rfl⟩
  have hx256 : l.getD (k / 8) 0 < 256 := HB.out _ (by simp [List.getD, List.getElem?_eq_getElem hq])
  rw [hx] at hcell hx256
  have HX := Lib.hid hx
  obtain ⟨hp1, hp2, hp3⟩ := pow_bit (k % 8) (by omega)
  have hxor := xor8 hx256 hp2
  rw [← hp1] at hxor
  obtain ⟨y, hy⟩ : ∃ y, x ^^^ 2 ^ (k % 8) = y := ⟨_, rfl⟩
  have hy256 : y < 256 := by rw [← hy]; exact xor_lt256 hx256 hp2
  have hyx : y ≠ l.getD (k / 8) 0 := by rw [hx, ← hy]; exact xor_ne hp3
  rw [hy] at hxor
  have HT := Lib.hid (sum_turned HB.out hq hy256 hyx)
  have HL := Lib.hid (mem_set256 (k := k / 8) HB.out hy256)
  clear ho3 hg3 hc3 hk3 hx hy hyx hp1 hp2 hp3
  have K4 := Lib.hid ((K3.out.setCell (p := ⟨g, k / 8, none⟩) (fun h => absurd (show g < w.heap.size from h) (by omega)) (.int .u8 (y : Int))).drew)
  have k4 : Kept (fun i => i = g) w3 (w3.setCell ⟨g, k / 8, none⟩ (.int .u8 (y : Int))).drew := ((Kept.refl (fun i => i = g) w3).setCell (p := ⟨g, k / 8, none⟩) (fun _ => rfl) _).drew
  have h0g : (0 : Nat) ≠ g := by have := T1.out.1; omega
  have T4 := Lib.hid (T3.out.kept k4 h0g)
  have O4 : Hid ((w3.setCell ⟨g, k / 8, none⟩ (.int .u8 (y : Int))).drew.ownsRow 0 5 1 (.slice (some ⟨g, 0, none⟩) (l.set (k / 8) y).length c3) (l.set (k / 8) y).length (bv (l.set (k / 8) y))) := by
    have h := (O3.out.stored (k / 8) (.int .u8 (y : Int))).1
    rw [bv_set] at h
    rw [Hid, List.length_set]
    exact h
  have R4 : Hid (Rd (w3.setCell ⟨g, k / 8, none⟩ (.int .u8 (y : Int))).drew A l) := by
    have kk : Kept (fun i => i = g) w1 (w3.setCell ⟨g, k / 8, none⟩ (.int .u8 (y : Int))).drew := KK.out.trans k4 (fun _ _ h => h)
    intro hp
    obtain ⟨ad, e, hb, hc⟩ := R1.out hp
    exact ⟨ad, e, Nat.lt_of_lt_of_le hb kk.size, fun i hi => (kk.cell (by rw [add_block]; exact hb) (by rw [add_block]; omega)).trans (hc i hi)⟩
  clear k4
  go_wp2
  go_region
  go_wp2_with fail
  generalize (w3.setCell { block := g, off := k / 8 } (Value.int IntKind.u8 (y : Int))).drew = w4 at *
  refine (sum_n _ _ _ (l.set (k / 8) y) _ (by simp) (Rd.of_owns O4.out) T4.out (by simp; omega) HL.out).mono ?_
  rintro e w5 ⟨rfl, rfl⟩
  go_wp2_with fail
  refine (sum_any _ _ _ _ R4.out T4.out (by omega) HB.out).mono ?_
  rintro e w5 ⟨rfl, rfl⟩
  have hne : (((sumOf (l.set (k / 8) y) : Nat) : Int) != ((sumOf l : Nat) : Int)) = true := by
    rw [bne_iff_ne]
    have := HT.out
    omega
  go_wp2
  go_ret
  exact ⟨rfl, K4.out⟩
end Go.Proofs.YtpjmefbbfgpaiaaDoor
