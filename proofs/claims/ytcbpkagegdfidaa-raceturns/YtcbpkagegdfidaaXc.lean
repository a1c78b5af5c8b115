/- Two events exchanged in a row of the call's own: what lies there then. -/
import Derived.Test.YtcbpkagegdfidaaCe
import Derived.Test.YtcbpkagegdfidaaHb
set_option linter.unusedSimpArgs false
set_option linter.unusedVariables false
namespace Go.Proofs.Ytcbpkagegdfidaa
open Go.RowKit

theorem below_drew (B : Nat) (W : World) : Below B W W.drew := ⟨rfl, rfl, rfl, Nat.le_refl _, fun _ _ => rfl⟩
theorem bd4 {B : Nat} {a W : World} (h : Below B a W) {p1 p2 p3 p4 : Nat} {g : Nat} (hg : B ≤ g) {u1 u2 u3 u4 : Value} : Below B a ((((W.setCell ⟨g, p1, Option.none⟩ u1).setCell ⟨g, p2, Option.none⟩ u2).setCell ⟨g, p3, Option.none⟩ u3).setCell ⟨g, p4, Option.none⟩ u4).drew := ((((h.setCell hg u1).setCell hg u2).setCell hg u3).setCell hg u4).trans (below_drew _ _)
theorem gb_set (W : World) (a : Addr) (v : Value) : W.grownBy (W.setCell a v) (some a.block) := ⟨rfl, rfl, rfl, by simp, fun k _ hne => Below.heap_setCell W a v k (fun e => hne (by rw [e]))⟩
theorem at_ne {g a b : Nat} (h : a ≠ b) : (⟨g, a, Option.none⟩ : Addr) ≠ ⟨g, b, Option.none⟩ := fun e => h (by have := congrArg Addr.off e; exact this)
theorem so {W : World} {g a b : Nat} {v : Value} (h : a ≠ b) : (W.setCell ⟨g, a, Option.none⟩ v).cell? ⟨g, b, Option.none⟩ = W.cell? ⟨g, b, Option.none⟩ := World.cell?_setCell_other _ _ _ _ (at_ne h)
theorem ss {W : World} {g a : Nat} {v u : Value} (h : W.cell? ⟨g, a, Option.none⟩ = some u) : (W.setCell ⟨g, a, Option.none⟩ v).cell? ⟨g, a, Option.none⟩ = some v := World.cell?_setCell_same _ _ _ h
theorem mk_set {W : World} {g o : Nat} {v u : Value} {m : List (Int × Bool)} (h : MkS W u m) (h2 : ∀ q, u.ownBlock = some q → some g ≠ some q) : MkS (W.setCell ⟨g, o, Option.none⟩ v) u m := h.grown (gb_set W ⟨g, o, Option.none⟩ v) h2
set_option maxHeartbeats 1600000 in
/-- Two events exchanged in a row of the call's own. -/
theorem xch_ev {w : World} {base g cap i A : Nat} {x : List (Int × List (Int × Bool))} {e f : Int × List (Int × Bool)} {pa pb : Value} (h : EvI w base (.slice (some ⟨g, 0, Option.none⟩) A cap) x) (hA : x.length = A) (he : x[i]? = some e) (hf : x[i + 1]? = some f) (cA : A ≤ cap) (cm : cap ≤ maxLen)
    (c0 : w.cell? ⟨g, i * 2, Option.none⟩ = some (.int .i64 e.1)) (c1 : w.cell? ⟨g, i * 2 + 1, Option.none⟩ = some pa) (c2 : w.cell? ⟨g, (i + 1) * 2, Option.none⟩ = some (.int .i64 f.1)) (c3 : w.cell? ⟨g, (i + 1) * 2 + 1, Option.none⟩ = some pb) (hg : g < w.heap.size) :
    EvS ((((w.setCell ⟨g, i * 2, Option.none⟩ (.int .i64 f.1)).setCell ⟨g, i * 2 + 1, Option.none⟩ pb).setCell ⟨g, (i + 1) * 2, Option.none⟩ (.int .i64 e.1)).setCell ⟨g, (i + 1) * 2 + 1, Option.none⟩ pa).drew (.slice (some ⟨g, 0, Option.none⟩) A cap) (xch x i) := by
  have key : ∀ X, (((w.setCell ⟨g, i * 2, Option.none⟩ (.int .i64 f.1)).setCell ⟨g, i * 2 + 1, Option.none⟩ pb).setCell ⟨g, (i + 1) * 2, Option.none⟩ (.int .i64 e.1)).setCell ⟨g, (i + 1) * 2 + 1, Option.none⟩ pa = X → EvS X (.slice (some ⟨g, 0, Option.none⟩) A cap) (xch x i) := by
    intro X hX
    subst hX
    obtain ⟨cs, hown, hc⟩ := h
    rw [hA] at hown
    have hev : ∀ k y, x[k]? = some y → w.cell? ⟨g, k * 2, Option.none⟩ = some (.int .i64 y.1) ∧ ∃ u, w.cell? ⟨g, k * 2 + 1, Option.none⟩ = some u ∧ MkS w u y.2 ∧ ∀ q, u.ownBlock = some q → some g ≠ some q := by
      intro k y hy
      have hk := (List.getElem?_eq_some_iff.1 hy).1
      obtain ⟨h1, u, h2, h3, h4⟩ := hc k y hy
      exact ⟨by rw [hown.cellAt (k * 2) (by omega), h1], u, by rw [hown.cellAt (k * 2 + 1) (by omega), h2], h3, h4⟩
    have kept : ∀ u m, MkS w u m → (∀ q, u.ownBlock = some q → some g ≠ some q) → MkS ((((w.setCell ⟨g, i * 2, Option.none⟩ (.int .i64 f.1)).setCell ⟨g, i * 2 + 1, Option.none⟩ pb).setCell ⟨g, (i + 1) * 2, Option.none⟩ (.int .i64 e.1)).setCell ⟨g, (i + 1) * 2 + 1, Option.none⟩ pa) u m := fun u m h1 h2 =>
      mk_set (mk_set (mk_set (mk_set h1 h2) h2) h2) h2
    obtain ⟨e1, ea, e2, e3, e4⟩ := hev i e he
    obtain ⟨f1, fa, f2, f3, f4⟩ := hev (i + 1) f hf
    have ea' : pa = ea := Option.some.inj (c1.symm.trans e2)
    have fa' : pb = fa := Option.some.inj (c3.symm.trans f2)
    subst ea'
    subst fa'
    have hx : xch x i = (x.set i f).set (i + 1) e := by unfold xch; rw [he, hf]
    have hil := (List.getElem?_eq_some_iff.1 he).1
    have hfl := (List.getElem?_eq_some_iff.1 hf).1
    refine ⟨_, cap, by rw [xch_len, hA], by rw [xch_len, hA]; exact cA, cm, .inr ⟨g, 0, rfl, by simpa using hg, fun k y hy => ?_⟩⟩
    rw [Nat.zero_add]
    rw [hx] at hy
    by_cases hk1 : i + 1 = k
    · subst hk1
      rw [List.getElem?_set_self (by rw [List.length_set]; omega)] at hy
      have hye := Option.some.inj hy
      subst hye
      exact ⟨(so (by omega)).trans (ss ((so (by omega)).trans ((so (by omega)).trans c2))), pa, ss ((so (by omega)).trans ((so (by omega)).trans ((so (by omega)).trans c3))), kept _ _ e3 e4⟩
    · rw [List.getElem?_set_ne hk1] at hy
      by_cases hk : i = k
      · subst hk
        rw [List.getElem?_set_self hil] at hy
        have hye := Option.some.inj hy
        subst hye
        exact ⟨(so (by omega)).trans ((so (by omega)).trans ((so (by omega)).trans (ss c0))), pb, (so (by omega)).trans ((so (by omega)).trans (ss ((so (by omega)).trans c1))), kept _ _ f3 f4⟩
      · rw [List.getElem?_set_ne hk] at hy
        obtain ⟨h1, u, h2, h3, h4⟩ := hev k y hy
        exact ⟨(so (by omega)).trans ((so (by omega)).trans ((so (by omega)).trans ((so (by omega)).trans h1))), u, (so (by omega)).trans ((so (by omega)).trans ((so (by omega)).trans ((so (by omega)).trans h2))), kept _ _ h3 h4⟩
  exact (key _ rfl).kept ⟨rfl, rfl, rfl, Nat.le_refl _, fun _ _ => rfl⟩

end Go.Proofs.Ytcbpkagegdfidaa
