/- slices.Equal of marks, event.Same, event.Depend: the walks. -/
import Derived.Test.YtcbpkagegdfidaaDp
set_option linter.unusedSimpArgs false
set_option linter.unusedVariables false
namespace Go.Proofs.Ytcbpkagegdfidaa
open Go.RowKit

set_option maxHeartbeats 2000000 in
theorem equal_any (a c : List (Int × Bool)) (v u : Value) (w : World) (ha : MkS w v a) (hc : MkS w u c) (hal : a.length ≤ 1000) (hcl : c.length ≤ 1000) : Calls Try.prog 41 #[v, u] w fun e w' => e = .returned (.bool (decide (a = c))) ∧ Below w.heap.size w w' := by
  obtain ⟨p, k, rfl, k1, k2, k3⟩ := ha
  obtain ⟨q, r, rfl, q1, q2, q3⟩ := hc
  by_cases hlen : a.length = c.length
  · obtain ⟨A, hA⟩ : ∃ A, a.length = A := ⟨_, rfl⟩
    have hC : c.length = A := by omega
    rw [hA] at k1 hal ⊢
    rw [hC] at q1 ⊢
    have HA := Lib.hid hA
    have HC := Lib.hid hC
    have K3 := Lib.hid k3
    have Q3 := Lib.hid q3
    clear hlen hA hC k3 q3
    go_enter Try.func41, Try.ntmps41
    go_wp2
    go_loopw [13] (fun s wr => ∃ j : Nat, s = .int .i64 (j : Int) ∧ j ≤ A ∧ Below w.heap.size w wr ∧ a.take j = c.take j) (fun s _ => A - (intOf s).toNat)
    case atStart => exact ⟨0, rfl, by omega, Below.refl _ _, by simp⟩
    case round =>
      obtain ⟨j, rfl, hj, hb, heq⟩ := hrel
      have HB := Lib.hid hb
      have HE := Lib.hid heq
      clear hb heq
      by_cases hlt : j < A
      · obtain ⟨x, hx⟩ : ∃ x, a[j]? = some x := ⟨_, List.getElem?_eq_getElem (by rw [HA.out]; exact hlt)⟩
        obtain ⟨y, hy⟩ : ∃ y, c[j]? = some y := ⟨_, List.getElem?_eq_getElem (by rw [HC.out]; exact hlt)⟩
        obtain ⟨b, o, rfl, hb, hr⟩ : ∃ b o, p = some ⟨b, o, Option.none⟩ ∧ b < w.heap.size ∧ Row w b o a := by
          rcases K3.out with ⟨_, e⟩ | h
          · rw [e] at hx; simp at hx
          · exact h
        obtain ⟨b', o', rfl, hb', hs⟩ : ∃ b o, q = some ⟨b, o, Option.none⟩ ∧ b < w.heap.size ∧ Row w b o c := by
          rcases Q3.out with ⟨_, e⟩ | h
          · rw [e] at hy; simp at hy
          · exact h
        obtain ⟨cx0, cx1⟩ := (hr.kept hb HB.out).get hx
        obtain ⟨cy0, cy1⟩ := (hs.kept hb' HB.out).get hy
        have HX := Lib.hid hx
        have HY := Lib.hid hy
        clear hx hy hr hs hb hb'
        have hnq := neq_mk x.1 y.1 x.2 y.2
        by_cases hxy : x = y
        · have he : (!(x.1 == y.1 && x.2 == y.2)) = false := by rw [hxy]; simp
          rw [he] at hnq
          have HXY := Lib.hid hxy
          clear hxy he
          go_wp2_with fail
          go_quiet (fail)
          have HK : Hid (Below w.heap.size w (wr.drewN nq)) := Lib.hid (HB.out.trans ⟨rfl, rfl, rfl, Nat.le_refl _, fun _ _ => rfl⟩)
          clear cx0 cx1 cy0 cy1
          generalize wr.drewN nq = w3 at HK ⊢
          go_wp2
          go_roundw
          case rel => exact ⟨j + 1, by go_num, by omega, HK.out, by rw [List.take_add_one, List.take_add_one, HE.out, HX.out, HY.out, HXY.out]⟩
          case measure => simp [intOf]; omega
        · have he : (!(x.1 == y.1 && x.2 == y.2)) = true := by
            rw [show (x.1 == y.1 && x.2 == y.2) = (x == y) from rfl]; simp [hxy]
          rw [he] at hnq
          have HXY := Lib.hid hxy
          clear hxy he
          go_wp2_with fail
          go_quiet (fail)
          have HK : Hid (Below w.heap.size w (wr.drewN nq)) := Lib.hid (HB.out.trans ⟨rfl, rfl, rfl, Nat.le_refl _, fun _ _ => rfl⟩)
          clear cx0 cx1 cy0 cy1
          generalize wr.drewN nq = w3 at HK ⊢
          go_wp2
          go_ret
          have hne : ¬ a = c := by
            intro e
            have h1 := HX.out
            rw [e, HY.out] at h1
            exact HXY.out (Option.some.inj h1).symm
          exact ⟨by rw [decide_eq_false hne]; rfl, HK.out⟩
      · have he : a = c := by
          have := HE.out
          rwa [List.take_of_length_le (by rw [HA.out]; omega), List.take_of_length_le (by rw [HC.out]; omega)] at this
        have HEE := Lib.hid he
        clear he
        go_wp2
        go_ret
        exact ⟨by rw [decide_eq_true HEE.out]; rfl, HB.out⟩
  · have hne : ¬ a = c := by intro e; rw [e] at hlen; exact hlen rfl
    rw [decide_eq_false hne]
    clear hne k3 q3
    have hl : ¬ (a.length : Int) = (c.length : Int) := by omega
    go_enter Try.func41, Try.ntmps41
    go_wp2
    go_ret
    exact ⟨rfl, Below.refl _ _⟩

set_option maxHeartbeats 2000000 in
theorem same_ev (t s : Int) (a c : List (Int × Bool)) (v u : Value) (w : World) (ha : MkS w v a) (hc : MkS w u c) (hal : a.length ≤ 1000) (hcl : c.length ≤ 1000) :
    Calls Try.prog 31 #[.agg #[.int .i64 t, v], .agg #[.int .i64 s, u]] w fun e w' => e = .returned (.bool (decide (t = s) && decide (a = c))) ∧ Below w.heap.size w w' := by
  have HE := Lib.hid (fun w' (k : Below w.heap.size w w') => equal_any a c v u w' (ha.kept k) (hc.kept k) hal hcl)
  obtain ⟨p, k, rfl, k1, k2, k3⟩ := ha
  obtain ⟨q, r, rfl, q1, q2, q3⟩ := hc
  clear k1 k2 k3 q1 q2 q3
  generalize a.length = A at *
  generalize c.length = C at *
  by_cases h : t = s
  · subst h
    go_enter Try.func31, Try.ntmps31
    go_wp2_with (go_at_call 41; refine Hid.out ?_)
    refine Lib.hid ?_
    refine (HE.out _ (((Below.refl _ w).alloc (Nat.le_refl _) _).alloc (by simp) _)).mono ?_
    rintro e w1 ⟨rfl, hb⟩
    have HB : Hid (Below w.heap.size w w1) := Lib.hid ((((Below.refl _ w).alloc (Nat.le_refl _) _).alloc (by simp) _).trans (hb.mono (by simp; omega)))
    clear hb
    go_wp2
    go_ret
    exact ⟨by simp, HB.out⟩
  · have hts : (t == s) = false := by simp [h]
    go_enter Try.func31, Try.ntmps31
    go_wp2
    go_ret
    exact ⟨by simp [h], ((Below.refl _ w).alloc (Nat.le_refl _) _).alloc (by simp) _⟩

end Go.Proofs.Ytcbpkagegdfidaa
