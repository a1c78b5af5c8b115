/- Tokens in memory: how they are read, compared; Split's contract in that form; the law's fixed fact. -/
import Derived.Test.YtgiioflkclkioaaGreatDoorSp
import Derived.Laws.StructEq
import Derived.BigQuiet
import Derived.Deep.QuietTactic
set_option linter.unusedSimpArgs false
set_option linter.unusedVariables false
namespace Go.Proofs.YtgiioflkclkioaaGreatDoor
open Go.RowKit Ieee

/-- Tokens lie from the beginning of block g on, four cells each. -/
def Toks (w : World) (g : Nat) (ts : List Tk) : Prop := ∀ i t, ts[i]? = some t →
  w.cell? ⟨g, i * 4, Option.none⟩ = some (.int .i64 (t.kind : Int)) ∧ w.cell? ⟨g, i * 4 + 1, Option.none⟩ = some (.string ⟨t.text.toArray⟩) ∧
  w.cell? ⟨g, i * 4 + 2, Option.none⟩ = some (.complex .f64 (fl false (t.re : Int)) (fl false (t.im : Int))) ∧ w.cell? ⟨g, i * 4 + 3, Option.none⟩ = some (.int .i64 (t.pos : Int))
theorem Toks.on {w w' : World} {g B : Nat} {ts : List Tk} (h : Toks w g ts) (hb : Below B w w') (hg : g < B) : Toks w' g ts := by
  intro i t ht
  obtain ⟨a, b, c, d⟩ := h i t ht
  exact ⟨(hb.cell (p := ⟨g, i * 4, Option.none⟩) hg).trans a, (hb.cell (p := ⟨g, i * 4 + 1, Option.none⟩) hg).trans b, (hb.cell (p := ⟨g, i * 4 + 2, Option.none⟩) hg).trans c, (hb.cell (p := ⟨g, i * 4 + 3, Option.none⟩) hg).trans d⟩

theorem tcs_at (ts : List Tk) : ∀ (i j : Nat) (t : Tk), ts[i]? = some t → j < 4 → (tcs ts)[i * 4 + j]? = (tc t)[j]? := by
  induction ts with
  | nil => intro i j t h; simp at h
  | cons u us ih =>
    intro i j t h hj
    have e : tcs (u :: us) = tc u ++ tcs us := rfl
    have hl : (tc u).length = 4 := rfl
    rw [e]
    cases i with
    | zero =>
      simp only [List.getElem?_cons_zero, Option.some.injEq] at h
      subst h
      rw [List.getElem?_append_left (by omega)]
      simp
    | succ i =>
      rw [List.getElem?_cons_succ] at h
      rw [List.getElem?_append_right (by omega), show (i + 1) * 4 + j - (tc u).length = i * 4 + j by omega]
      exact ih i j t h hj
theorem toks_of {w : World} {base g n cap : Nat} {ts : List Tk} (h : w.ownsRow base 88 4 (.slice (some ⟨g, 0, Option.none⟩) ts.length cap) ts.length (tcs ts)) : Toks w g ts := by
  intro i t ht
  have hi : i < ts.length := (List.getElem?_eq_some_iff.1 ht).1
  have key : ∀ j, j < 4 → w.cell? ⟨g, i * 4 + j, Option.none⟩ = (tc t)[j]? := fun j hj => by
    rw [h.cellAt (i * 4 + j) (by omega)]; exact tcs_at ts i j t ht hj
  exact ⟨key 0 (by omega), key 1 (by omega), key 2 (by omega), key 3 (by omega)⟩

/-- What Split answers, read. -/
def SplT (w : World) (r : Except (Nat × Nat) (List Tk)) (e : Ending) (w' : World) : Prop :=
  match r with
  | .error (p, c) => e = .returned (.tuple #[.slice none 0 0, .int .i64 (p : Int), .int .i64 (c : Int)]) ∧ Below w.heap.size w w'
  | .ok ts => ∃ g cap : Nat, e = .returned (.tuple #[.slice (some ⟨g, 0, Option.none⟩) ts.length cap, .int .i64 0, .int .i64 0]) ∧ g < w'.heap.size ∧ Toks w' g ts ∧ Below w.heap.size w w'
theorem splT_of {w : World} {l : List UInt8} {p : Nat} {e : Ending} {w' : World} (h : SplR w (spl l p) e w') : SplT w (spl l p) e w' := by
  cases hr : spl l p with
  | error q => rw [hr] at h; exact h
  | ok ts =>
    rw [hr] at h
    obtain ⟨v, rfl, ho, hb⟩ := h
    have hp : 0 < ts.length := List.length_pos_iff.2 (spl_ne hr)
    obtain ⟨g, cap, rfl, _, hlt⟩ := ho.form hp
    exact ⟨g, cap, rfl, hlt, toks_of (n := 0) ho, hb⟩
theorem splitT (s : ByteArray) (hs : s.size ≤ 16384) (w0 : World) (hb : Lb w0) : Calls Tryz.prog 35 #[.string s] w0 (SplT w0 (spl s.data.toList 0)) :=
  (split_any s hs w0 hb).mono fun e w' h => splT_of h

/-- Numbers of tokens are small. -/
theorem okNum_small {l : List UInt8} (h : okNum l = true) : val (l.take (dlen l)) ≤ 1048576 := by
  unfold okNum at h
  simp only [Bool.and_eq_true, decide_eq_true_eq] at h
  exact h.2
theorem tok_small {m : List UInt8} {k n x y : Nat} (h : tok m = .ok (k, n, x, y)) : x ≤ 1048576 ∧ y ≤ 1048576 := by
  unfold tok at h
  split at h
  · cases h
  · repeat' split at h
    all_goals (cases h)
    all_goals first
      | exact ⟨by omega, by omega⟩
      | (rename_i h1 _; have := okNum_small h1; exact ⟨by omega, by omega⟩)
theorem spl_small (n : Nat) : ∀ (l : List UInt8) (p : Nat) (ts : List Tk), l.length ≤ n → spl l p = .ok ts → ∀ t ∈ ts, t.re ≤ 1048576 ∧ t.im ≤ 1048576 := by
  have base : ∀ (q : Nat) (t : Tk), t ∈ [(⟨0, [], 0, 0, q⟩ : Tk)] → t.re ≤ 1048576 ∧ t.im ≤ 1048576 := by
    intro q t ht
    simp only [List.mem_cons, List.not_mem_nil, or_false] at ht
    subst ht
    exact ⟨Nat.zero_le _, Nat.zero_le _⟩
  induction n with
  | zero =>
    intro l p ts hn h
    obtain rfl : l = [] := List.length_eq_zero_iff.1 (by omega)
    rw [spl_end (l := []) rfl] at h
    injection h with h
    subst h
    exact base _
  | succ n ih =>
    intro l p ts hn h
    cases hd : l.drop (gap false l) with
    | nil =>
      rw [spl_end hd] at h
      injection h with h
      subst h
      exact base _
    | cons c r =>
      have hl : (c :: r).length ≤ l.length := by rw [← hd]; simp
      cases ht : tok (c :: r) with
      | error e => rw [spl_err hd (by simp) ht] at h; cases h
      | ok t =>
        obtain ⟨k, m, u, v⟩ := t
        have hf := tok_facts ht
        have hsm := tok_small ht
        rw [spl_tok hd (by simp) ht hf.1] at h
        cases hs : spl ((c :: r).drop m) (p + gap false l + m) with
        | error e => rw [hs] at h; cases h
        | ok ts' =>
          rw [hs] at h
          injection h with h
          subst h
          intro t ht'
          rcases List.mem_cons.1 ht' with rfl | ht'
          · exact hsm
          · exact ih _ _ ts' (by simp only [List.length_drop]; omega) hs t ht'

theorem sm_of3 {n : Nat} (h : n ≤ 1048576) : Sm (n : Int) := by unfold Sm; omega
theorem ord_fl {n : Nat} (h : n ≤ 1048576) : (FloatKind.f64.format.order (fl false (n : Int)) (fl false (n : Int)) == some .eq) = true := by
  rw [eq_fl false false (sm_of3 h) (sm_of3 h)]; simp
theorem cx_same (w : World) {x y : Nat} (hx : x ≤ 1048576) (hy : y ≤ 1048576) (d : Nat) :
    (Op.equalIn (d + 1) 58 (.complex .f64 (fl false (x : Int)) (fl false (y : Int))) (.complex .f64 (fl false (x : Int)) (fl false (y : Int)))).run Tryz.prog w = .ok true w := by
  have h1 := ord_fl hx
  have h2 := ord_fl hy
  simp only [beq_iff_eq] at h1 h2
  simp [Op.equalIn, run_underlying Tryz.underlying58, Op.floatEq, h1, h2]
set_option maxRecDepth 100000 in
theorem tk_same (w : World) {t : Tk} (h : t.re ≤ 1048576 ∧ t.im ≤ 1048576) : (binOp .neq 88 (tv3 t) (tv3 t)).run Tryz.prog w = .ok (.bool false) w := by
  have hc := fun w => cx_same w h.1 h.2 9998
  rw [run_neq_struct, run_equalIn_agg w 9999 88 _ _ (by kernel_rfl) (by kernel_rfl)]
  simp [Op.eqFields, go_sem, hc]

theorem spl_ex : spl [97, 61, 51, 105] 0 = .ok [⟨1, [97], 0, 0, 0⟩, ⟨3, [61], 0, 0, 1⟩, ⟨2, [51, 105], 0, 3, 2⟩, ⟨0, [], 0, 0, 4⟩] := by
  have t1 : tok [97, 61, 51, 105] = .ok (1, 1, 0, 0) := by rfl
  have t2 : tok [61, 51, 105] = .ok (3, 1, 0, 0) := by rfl
  have t3 : tok [51, 105] = .ok (2, 2, 0, 3) := by rfl
  rw [spl_tok (m := [97, 61, 51, 105]) (by decide) (by simp) t1 (by omega)]
  have g1 : gap false [97, 61, 51, 105] = 0 := by decide
  have g2 : gap false [61, 51, 105] = 0 := by decide
  have g3 : gap false [51, 105] = 0 := by decide
  rw [show ([97, 61, 51, 105] : List UInt8).drop 1 = [61, 51, 105] from rfl, spl_tok (m := [61, 51, 105]) (by decide) (by simp) t2 (by omega)]
  rw [show ([61, 51, 105] : List UInt8).drop 1 = [51, 105] from rfl, spl_tok (m := [51, 105]) (by decide) (by simp) t3 (by omega)]
  rw [show ([51, 105] : List UInt8).drop 2 = [] from rfl, spl_end (by decide), g1, g2, g3]
  rfl
theorem fl3 : fl false 3 = 4613937818241073152 := by decide +kernel
set_option maxRecDepth 100000 in
set_option maxHeartbeats 3200000 in
theorem awake (w : World) (hb : Lb w) : Calls Tryz.prog 30 #[] w fun e w' => e = .returned (.bool true) ∧ Below w.heap.size w w' := by
  have h := splitT ⟨#[97, 61, 51, 105]⟩ (by decide) w hb
  have e1 : (⟨#[97, 61, 51, 105]⟩ : ByteArray).data.toList = [97, 61, 51, 105] := rfl
  rw [e1, spl_ex] at h
  clear e1 hb
  go_enter Tryz.func30, Tryz.ntmps30
  go_wp2_with (go_at_call 35; refine Hid.out ?_)
  refine Lib.hid ?_
  refine h.mono ?_
  rintro e w1 ⟨g, cap, rfl, hg, ht, hbel⟩
  have k1 := (ht 2 _ rfl).2.2.1
  have k2 := (ht 3 _ rfl).1
  have k3 := (ht 3 _ rfl).2.2.2
  simp only [Nat.reduceMul, Nat.reduceAdd, Int.cast_ofNat_Int] at k1 k2 k3
  have f0 : fl false (((0 : Nat)) : Int) = 0 := fl0
  have f3 : fl false (((3 : Nat)) : Int) = 4613937818241073152 := fl3
  rw [show fl false (0 : Int) = 0 from fl0, show fl false (3 : Int) = 4613937818241073152 from fl3] at k1
  have HB := Lib.hid hbel
  have q0 : Op.floatEq .f64 0 0 = true := by decide +kernel
  have q3 : Op.floatEq .f64 4613937818241073152 4613937818241073152 = true := by decide +kernel
  clear h ht hbel f0 f3
  go_wp2
  go_ret
  exact ⟨rfl, HB.out⟩
end Go.Proofs.YtgiioflkclkioaaGreatDoor
