/- braidworkref01.Num: a number's bytes, by itself again. -/
import Derived.Test.YtpjmefbbfgpaiaaDoorAp
namespace Go.Proofs.YtpjmefbbfgpaiaaDoor
open Go.RowKit

theorem owns_new (w : World) (x : Nat) : (w.alloc (.cells #[.int .u8 (x : Int)] 5)).ownsRow 0 5 1 (.slice (some ⟨w.heap.size, 0, none⟩) 1 1) 1 (bv [x]) :=
  ⟨by simp [bv], .inr ⟨w.heap.size, 1, #[.int .u8 (x : Int)], rfl, Nat.zero_le _, heap_alloc_new w _, Nat.le_refl _, by simp [maxLen], by simp, by simp [bv]⟩⟩

set_option maxRecDepth 100000 in
set_option maxHeartbeats 1600000 in
theorem rnum_any (n : Nat) : ∀ (w : World), Fits64 n → Calls Tryd.prog 13 #[.int .u64 n] w (Fresh w (vnum n)) := by
  induction n using Nat.strongRecOn with
  | _ n ih =>
    intro w hn
    have IH := Lib.hid ih
    clear ih
    obtain ⟨i0, hi, hz0, hz1, hz2⟩ := info_parts info5
    by_cases hlt : n < 128
    · rw [vnum_lo hlt]
      go_enter Tryd.func13, Tryd.ntmps13
      go_wp2
      go_ret
      exact ⟨some ⟨w.heap.size, 0, none⟩, 1, rfl, owns_new w n, by simp [Value.ownBlock], by simp, (Kept.refl _ _).alloc _⟩
    · rw [vnum_hi hlt]
      have hv : (vnum (n / 128)).length ≤ 10 := vnum_ten (hn.le (by omega))
      obtain ⟨y, hy⟩ : ∃ y : Nat, 128 + n % 128 = y := ⟨_, rfl⟩
      obtain ⟨m, hm⟩ : ∃ m : Nat, n / 128 = m := ⟨_, rfl⟩
      have hx : 128 + (n : Int) % 128 = (y : Int) := by omega
      have hy8 : y < 256 := by omega
      have hq : IntKind.u64.wrap ((n : Int) / 128) = (m : Int) := by
        unfold Fits64 at hn
        rw [IntKind.wrap_u64]
        omega
      have hml : m < n := by omega
      have hf : Fits64 m := hn.le (by omega)
      rw [hy, hm]
      rw [hm] at hv
      clear hy hm hn
      go_enter Tryd.func13, Tryd.ntmps13
      go_wp2_with fail
      refine (IH.out m hml _ hf).mono ?_
      rintro e w1 ⟨A1, c1, rfl, ho1, hg1, hc1, hk1⟩
      obtain ⟨g1, cap1, e1, _, _⟩ := ho1.form (vnum_pos m)
      injection e1 with eA _ ec
      subst eA ec
      have hown := owns_kept (owns_new w y) hk1 (fun _ _ h => h)
      have hcells := ho1.cells (g := g1) rfl
      have hge : w.heap.size + 1 ≤ g1 := by have := hg1 g1 rfl; simpa using this
      have H1 := Lib.hid hown
      have C1 := Lib.hid hcells
      have K1 := Lib.hid ((((Kept.refl (fun _ => False) w).alloc (.cells #[.int .u8 (y : Int)] 5))).trans hk1 (fun _ _ h => h))
      have hv' : (bv (vnum m)).length = (vnum m).length * 1 := by simp [bv]
      have hone := bv_one (vnum m)
      have hpos := vnum_pos m
      generalize vnum m = l at *
      have V := Lib.hid hv'
      have O := Lib.hid hone
      clear ho1 hg1 hc1 hk1 hown hcells hv' hone IH
      go_wp2_with (at_builtin; refine wpList_append_own_at _ rfl (.tmp 12) (.tmp 15) 24 rfl 0 5 i0 (.int .u8 0) 1 1 Tryd.underlying24 hi hz0 hz1 hz2 rfl (by decide) _ 1 (bv [y]) rfl H1.out ⟨g1, 0, none⟩ l.length c1 (bv l) rfl V.out C1.out O.out (by simp only [maxLen]; omega) (by omega) (Nat.zero_le _) ?a4)
      intro v' w2 hown hg _ hat
      obtain ⟨A', c', rfl⟩ := owns_shape hown
      have hk : Kept (fun _ => False) w w2 := K1.out.grown hg (by
        intro k e hlt
        simp [Value.ownBlock] at e
        omega)
      have hge : ∀ g, (Value.slice A' (1 + l.length) c').ownBlock = some g → w.heap.size ≤ g := by
        intro g e
        rw [e] at hat
        rcases hat with h | h
        · simp [Value.ownBlock] at h; omega
        · have := K1.out.size; simp at h; omega
      have R := Lib.hid (And.intro hown (And.intro hge hk))
      clear hown hg hat hge hk
      go_wp2
      go_ret
      obtain ⟨hown, hge, hk⟩ := R.out
      rw [← bv_append] at hown
      have e : 1 + l.length = (y :: l).length := by rw [List.length_cons, Nat.add_comm]
      rw [e] at hown hge ⊢
      exact ⟨A', c', rfl, hown, hge, owns_nocap hown, hk⟩
end Go.Proofs.YtpjmefbbfgpaiaaDoor
