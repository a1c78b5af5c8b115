/- event.Depend. -/
import Derived.Test.YtcbpkagegdfidaaCl
set_option linter.unusedSimpArgs false
set_option linter.unusedVariables false
namespace Go.Proofs.Ytcbpkagegdfidaa
open Go.RowKit

set_option maxHeartbeats 2000000 in
theorem depend_any (t s : Int) (a c : List (Int × Bool)) (v u : Value) (w : World) (ha : MkS w v a) (hc : MkS w u c) (hal : a.length ≤ 1000) (hcl : c.length ≤ 1000) :
    Calls Try.prog 17 #[.agg #[.int .i64 t, v], .agg #[.int .i64 s, u]] w fun e w' => e = .returned (.bool (decide (t = s) || clh a c)) ∧ Below w.heap.size w w' := by
  have HE := Lib.hid (fun w' (k : Below w.heap.size w w') => clash_any a c v u w' (ha.kept k) (hc.kept k) hal hcl)
  obtain ⟨p, k, rfl, k1, k2, k3⟩ := ha
  obtain ⟨q, r, rfl, q1, q2, q3⟩ := hc
  clear k1 k2 k3 q1 q2 q3
  generalize a.length = A at *
  generalize c.length = C at *
  by_cases h : t = s
  · subst h
    go_enter Try.func17, Try.ntmps17
    go_wp2
    go_ret
    exact ⟨by simp, ((Below.refl _ w).alloc (Nat.le_refl _) _).alloc (by simp) _⟩
  · have hts : (t == s) = false := by simp [h]
    go_enter Try.func17, Try.ntmps17
    go_wp2_with (go_at_call 32; refine Hid.out ?_)
    refine Lib.hid ?_
    refine (HE.out _ (((Below.refl _ w).alloc (Nat.le_refl _) _).alloc (by simp) _)).mono ?_
    rintro e w1 ⟨rfl, hb⟩
    have HB : Hid (Below w.heap.size w w1) := Lib.hid ((((Below.refl _ w).alloc (Nat.le_refl _) _).alloc (by simp) _).trans (hb.mono (by simp; omega)))
    clear hb
    go_wp2
    go_ret
    exact ⟨by simp [h], HB.out⟩
end Go.Proofs.Ytcbpkagegdfidaa
