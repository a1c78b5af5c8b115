/- The made program is right, and its text isn't long. -/
import Derived.Test.YtmomdcnlhljhcaaDoorMy
import Derived.Test.YtmomdcnlhljhcaaDoorPx
set_option linter.unusedSimpArgs false
set_option linter.unusedVariables false
namespace Go.Proofs.YtmomdcnlhljhcaaDoor
open Go.RowKit Ieee

theorem aProg_right (x : Sml) (hx : Smok x) : ∀ d ∈ aProg x, Wdc d := by
  intro d hd
  have hce := hx.ce
  have h4 := tmod_b x.n 4 (by omega)
  have h3 := tmod_b (x.n.tdiv 16) 3 (by omega)
  rcases List.mem_append.1 hd with hd | hd
  · rcases List.mem_append.1 hd with hd | hd
    · rcases List.mem_append.1 hd with hd | hd
      · rcases List.mem_append.1 hd with hd | hd
        · rcases List.mem_append.1 hd with hd | hd
          · obtain ⟨i, _, rfl⟩ := List.mem_map.1 hd
            show Wdc ⟨0, lett 120 i 9, x.n.tmod 4, (x.n.tdiv 16).tmod 3, .nil⟩
            exact ⟨(by dsimp only; omega), ⟨by show -100 ≤ x.n.tmod 4; omega, by show x.n.tmod 4 ≤ 100; omega⟩, ⟨by show -100 ≤ (x.n.tdiv 16).tmod 3; omega, by show (x.n.tdiv 16).tmod 3 ≤ 100; omega⟩, trivial, fun _ => rfl, (fun h => by rcases h with h | h <;> cases h), fun h => absurd rfl h, .inl ⟨rfl, _, rfl⟩⟩
          · split at hd
            · rw [List.mem_singleton] at hd
              subst hd
              have hm : x.ar % 4 < 4 := Nat.mod_lt _ (by decide)
              show Wdc ⟨1, [118], ((x.ar % 4 : Nat) : Int), 0, .nil⟩
              exact ⟨(by dsimp only; omega), ⟨by show -100 ≤ ((x.ar % 4 : Nat) : Int); omega, by show ((x.ar % 4 : Nat) : Int) ≤ 100; omega⟩, ⟨(by dsimp only; omega), (by dsimp only; omega)⟩, trivial, fun _ => rfl, (fun h => by rcases h with h | h <;> cases h), fun _ => rfl, .inr (.inl ⟨rfl, rfl⟩)⟩
            · cases hd
        · obtain ⟨i, _, rfl⟩ := List.mem_map.1 hd
          show Wdc ⟨2, lett 109 i 9, 0, 0, .nil⟩
          exact ⟨(by dsimp only; omega), ⟨(by dsimp only; omega), (by dsimp only; omega)⟩, ⟨(by dsimp only; omega), (by dsimp only; omega)⟩, trivial, fun _ => rfl, fun _ => ⟨rfl, rfl⟩, fun _ => rfl, .inr (.inr (.inl ⟨rfl, _, rfl⟩))⟩
      · obtain ⟨i, _, rfl⟩ := List.mem_map.1 hd
        have hm : x.se / 4 % 3 < 3 := Nat.mod_lt _ (by decide)
        show Wdc ⟨3, lett 115 i 9, ((x.se / 4 % 3 : Nat) : Int), 0, .nil⟩
        exact ⟨(by dsimp only; omega), ⟨by show -100 ≤ ((x.se / 4 % 3 : Nat) : Int); omega, by show ((x.se / 4 % 3 : Nat) : Int) ≤ 100; omega⟩, ⟨(by dsimp only; omega), (by dsimp only; omega)⟩, trivial, fun _ => rfl, (fun h => by rcases h with h | h <;> cases h), fun _ => rfl, .inr (.inr (.inr (.inl ⟨rfl, _, rfl⟩)))⟩
    · rw [List.mem_singleton] at hd
      subst hd
      have hm : x.bu % 24 < 24 := Nat.mod_lt _ (by decide)
      show Wdc ⟨4, [], ((1 + x.bu % 24 : Nat) : Int), 0, .nil⟩
      exact ⟨(by dsimp only; omega), ⟨by show -100 ≤ ((1 + x.bu % 24 : Nat) : Int); omega, by show ((1 + x.bu % 24 : Nat) : Int) ≤ 100; omega⟩, ⟨(by dsimp only; omega), (by dsimp only; omega)⟩, trivial, fun _ => rfl, (fun h => by rcases h with h | h <;> cases h), fun _ => rfl, .inr (.inr (.inr (.inr (.inl ⟨rfl, rfl⟩))))⟩
  · have key : ∀ (ls : List (List S5)) (i : Nat) (d : Dc), d ∈ thrs x i ls → Wdc d := by
      intro ls
      induction ls with
      | nil => intro i d h; cases h
      | cons l ls ih =>
        intro i d h
        rcases List.mem_cons.1 h with rfl | h
        · exact ⟨by show 5 < 6; decide, ⟨by show (-100 : Int) ≤ 0; decide, by show (0 : Int) ≤ 100; decide⟩, ⟨by show (-100 : Int) ≤ 0; decide, by show (0 : Int) ≤ 100; decide⟩, srun_right _ _ _ _ _, fun h => absurd rfl h, fun _ => ⟨rfl, rfl⟩, fun _ => rfl, .inr (.inr (.inr (.inr (.inr ⟨rfl, _, rfl⟩))))⟩
        · exact ih _ _ h
    exact key _ _ _ hd

/-! ### Lengths -/
theorem num_len (n : Int) : (ext (aNum n)).length ≤ 22 := by
  have h0 := Int.emod_nonneg n (show (16 : Int) ≠ 0 by decide)
  have h1 := Int.emod_lt_of_pos n (show (0 : Int) < 16 by decide)
  obtain ⟨m, hm⟩ : ∃ m, (n % 16).toNat = m := ⟨_, rfl⟩
  have hm16 : m < 16 := by omega
  unfold aNum
  rw [hm]
  split
  · have hl : (Lib.itoa ((m + 1 : Nat) : Int)).length ≤ 21 := itoa_len (by unfold Sm; omega)
    show (numT 0 (m + 1)).length ≤ 22
    unfold numT
    rw [if_neg (by omega), List.length_append]
    simp only [List.length_cons, List.length_nil]
    omega
  · have hl : (Lib.itoa (m : Int)).length ≤ 21 := itoa_len (by unfold Sm; omega)
    show (numT m 0).length ≤ 22
    unfold numT
    rw [if_pos rfl]
    omega
theorem op2_short (k : Nat) : (op2 k).length ≤ 2 := by unfold op2; split <;> simp
theorem expr_len (a : Nat) (n : Int) : (ext (aExpr a n)).length ≤ 60 := by
  have h1 := num_len n
  have o0 := op2_short 0
  have o1 := op2_short 1
  have o2 := op2_short 2
  have o3 := op2_short 3
  have o4 := op2_short 4
  have o5 := op2_short 5
  unfold aExpr
  split
  all_goals first
    | exact Nat.le_trans h1 (by omega)
    | (simp only [ext, List.length_append, List.length_cons, List.length_nil]; omega)
/-- Every expression of the statements is short. -/
def Sh : Sts → Prop
  | .nil => True
  | .cons _ _ _ _ xs b e r => (∀ x ∈ xs, (ext x).length ≤ 60) ∧ Sh b ∧ Sh e ∧ Sh r
theorem aXs_short (x : Sml) (s : S5) : ∀ y ∈ aXs x s, (ext y).length ≤ 60 := by
  intro y hy
  unfold aXs at hy
  rcases List.mem_append.1 hy with h | h
  · split at h
    · rw [List.mem_singleton.1 h]; exact expr_len _ _
    · cases h
  · rcases List.mem_append.1 h with h | h
    · split at h
      · rw [List.mem_singleton.1 h]; exact expr_len _ _
      · cases h
    · split at h
      · rw [List.mem_singleton.1 h]; exact Nat.le_trans (num_len _) (by omega)
      · cases h
theorem srun_short (x : Sml) : ∀ (f : Nat) (l : List S5) (most deep : Nat), Sh (srun x f l most deep).1 := by
  intro f
  induction f with
  | zero => intro l m d; trivial
  | succ f ih =>
    intro l m d
    cases l with
    | nil => trivial
    | cons s l =>
      cases m with
      | zero => trivial
      | succ m =>
        rw [srun.eq_def]
        simp only
        split
        · cases d with
          | zero => exact ih l m 0
          | succ d =>
            simp only
            refine ⟨aXs_short x s, ih _ _ _, ?_, ih _ _ _⟩
            split
            · exact ih _ _ _
            · trivial
        · split
          · exact ⟨aXs_short x s, trivial, trivial, ih _ _ _⟩
          · exact ih _ _ _
theorem exs_len (xs : List Ex) : ∀ g : List UInt8, g.length ≤ 2 → (∀ x ∈ xs, (ext x).length ≤ 60) → (exsT g xs).length ≤ 62 * xs.length := by
  induction xs with
  | nil => intro g _ _; simp [exsT]
  | cons x xs ih =>
    intro g hg h
    have h1 := h x List.mem_cons_self
    have h2 := ih [44, 32] (by simp) (fun y hy => h y (List.mem_cons_of_mem _ hy))
    simp only [exsT, List.length_append, List.length_cons]
    omega
theorem head_len {k : Nat} {rg nm : List UInt8} {ix : Bool} {xs : List Ex} (h : Wh k rg nm ix xs) (hs : ∀ x ∈ xs, (ext x).length ≤ 60) : (headT k rg nm ix xs).length ≤ 300 := by
  have h1 := h.rlen
  have h2 := h.name.len
  have h3 := h.xlen
  have h4 := word_len k
  have h5 : (exsT (gap1 k) (restX k ix xs)).length ≤ 186 := by
    have hr : (restX k ix xs).length ≤ 3 := by
      unfold restX
      split
      · rw [List.length_drop]; omega
      · omega
    have := exs_len (restX k ix xs) (gap1 k) (gap1_len k) (fun x hx => hs x (by unfold restX at hx; split at hx; exact List.mem_of_mem_drop hx; exact hx))
    omega
  have h6 : (nameT k nm ix xs).length ≤ 70 := by
    unfold nameT
    split
    · split
      · rename_i x l
        have := hs x List.mem_cons_self
        simp only [List.length_append, List.length_cons, List.length_nil]; omega
      · simp only [List.length_append, List.length_cons, List.length_nil]; omega
    · simp
  unfold headT
  simp only [List.length_append]
  split
  · simp only [List.length_append, List.length_cons, List.length_nil]; omega
  · simp only [List.length_nil]; omega
theorem sts_short (s : Sts) : Ws s → Sh s → (stsT s).length ≤ 320 * s.all := by
  induction s with
  | nil => intro _ _; simp [stsT]
  | cons k rg nm ix xs b e r ihb ihe ihr =>
    intro hw hs
    have h1 := head_len hw.1 hs.1
    have h2 := ihb hw.2.2.2.1 hs.2.1
    have h3 := ihe hw.2.2.2.2.1 hs.2.2.1
    have h4 := ihr hw.2.2.2.2.2 hs.2.2.2
    simp only [stsT, Sts.all, List.length_append]
    have h5 : (elseT ([32, 123, 10] ++ stsT e ++ [125]) e.len).length ≤ 320 * e.all + 9 := by
      unfold elseT; split
      · simp
      · simp only [List.length_append, List.length_cons, List.length_nil]; omega
    split <;> simp only [List.length_append, List.length_cons, List.length_nil] <;> omega
theorem swd_len (k : Nat) : (swd k).length ≤ 6 := by unfold swd; split <;> simp
theorem dc_short {d : Dc} (h : Wdc d) (hs : Sh d.body) : (dcT d).length ≤ 100 + 320 * d.body.all := by
  have h1 := swd_len d.so
  have h2 := h.nml
  have h3 := dn_len h.sm.1 h.sm.2
  have h4 := sts_short d.body h.body hs
  have h5 := swd_len 5
  have h6 := swd_len 4
  have h7 := swd_len 2
  unfold dcT blkT
  split
  · simp only [List.length_append, List.length_cons, List.length_nil]; omega
  · split
    · simp only [List.length_append, List.length_cons, List.length_nil]; omega
    · split <;> simp only [List.length_append, List.length_cons, List.length_nil] <;> omega
theorem dcs_short (l : List Dc) (h : ∀ d ∈ l, (dcT d).length ≤ 7000) : (dcsT l).length ≤ 7000 * l.length := by
  induction l with
  | nil => simp [dcsT]
  | cons d l ih =>
    have h1 := h d List.mem_cons_self
    have h2 := ih (fun e he => h e (List.mem_cons_of_mem _ he))
    simp only [dcsT, List.length_append, List.length_cons]
    omega
theorem aProg_body (x : Sml) (hok : ∀ l ∈ x.th, l.length ≤ 20) : ∀ d ∈ aProg x, Sh d.body ∧ d.body.all ≤ 20 := by
  intro d hd
  have nilc : ∀ d : Dc, d.body = .nil → Sh d.body ∧ d.body.all ≤ 20 := fun d h => by rw [h]; exact ⟨trivial, by simp [Sts.all]⟩
  rcases List.mem_append.1 hd with hd | hd
  · refine nilc d ?_
    rcases List.mem_append.1 hd with hd | hd
    · rcases List.mem_append.1 hd with hd | hd
      · rcases List.mem_append.1 hd with hd | hd
        · rcases List.mem_append.1 hd with hd | hd
          · obtain ⟨i, _, rfl⟩ := List.mem_map.1 hd; rfl
          · split at hd
            · rw [List.mem_singleton] at hd; subst hd; rfl
            · cases hd
        · obtain ⟨i, _, rfl⟩ := List.mem_map.1 hd; rfl
      · obtain ⟨i, _, rfl⟩ := List.mem_map.1 hd; rfl
    · rw [List.mem_singleton] at hd; subst hd; rfl
  · have key : ∀ (ls : List (List S5)), (∀ l ∈ ls, l.length ≤ 20) → ∀ (i : Nat) (d : Dc), d ∈ thrs x i ls → Sh d.body ∧ d.body.all ≤ 20 := by
      intro ls
      induction ls with
      | nil => intro _ i d h; cases h
      | cons l ls ih =>
        intro hl i d h
        rcases List.mem_cons.1 h with rfl | h
        · have := srun_all x l.length l 100 3
          have := hl l List.mem_cons_self
          exact ⟨srun_short _ _ _ _ _, by show (srun x l.length l 100 3).1.all ≤ 20; omega⟩
        · exact ih (fun l' h' => hl l' (List.mem_cons_of_mem _ h')) _ _ h
    refine key (aThr x) ?_ _ _ hd
    intro l hl
    unfold aThr at hl
    split at hl
    · rw [List.mem_singleton] at hl; subst hl; simp
    · exact hok l hl
theorem aProg_len (x : Sml) (hx : Smok x) (hok : ∀ l ∈ x.th, l.length ≤ 20) : (dcsT (aProg x)).length ≤ 1000000 ∧ 0 < (aProg x).length ∧ (aProg x).length ≤ 15 := by
  have h1 : (aProg x).length ≤ 15 := by
    unfold aProg
    rw [List.length_append, thrs_len]
    have := aP5_len x
    have h6 : (aThr x).length ≤ 6 := by unfold aThr; split; simp; exact hx.th
    omega
  have h2 : 0 < (aProg x).length := by unfold aProg aP5; simp; omega
  refine ⟨?_, h2, h1⟩
  have := dcs_short (aProg x) (fun d hd => by
    have a := dc_short (aProg_right x hx d hd) (aProg_body x hok d hd).1
    have b := (aProg_body x hok d hd).2
    omega)
  omega
end Go.Proofs.YtmomdcnlhljhcaaDoor
