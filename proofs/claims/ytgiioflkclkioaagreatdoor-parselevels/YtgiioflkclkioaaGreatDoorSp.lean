/- lex.Split: a text's tokens, or where it goes wrong, and why. -/
import Derived.Test.YtgiioflkclkioaaGreatDoorTa
import Derived.Maps.AppendAt
import Derived.Deep.AppendLies
import Derived.OwnWalk
import Derived.Laws.OwnMore
set_option linter.unusedSimpArgs false
set_option linter.unusedVariables false
namespace Go.Proofs.YtgiioflkclkioaaGreatDoor
open Go.RowKit Ieee

/-- A scope with one label, which the run first falls into, and then jumps back to. -/
theorem scope1k {P : Program} {a : Act} {w : World} {Q : Exit → Act → World → Prop} {c r : Code} (l : Nat) (J : Act → World → Prop) (m : Act → World → Nat) (f : findLabel c l = some (Code.skip.seq r))
    (pass : ∀ a w, J a w → r.wp P (Exit.jump l (fun a' w' => J a' w' ∧ m a' w' < m a w) Q) a w)
    (first : (∀ a w, J a w → r.wp P (Exit.jump l J Q) a w) → c.wp P (Exit.jump l J Q) a w) : (Code.scope c).wp P Q a w := by
  refine wp_scope_jumps l J m f (first fun a w h => wp_mono (pass a w h) ?_) fun a w h => wp_seq (wp_skip (pass a w h))
  intro e a' w' h
  cases e with
  | goto l' => exact ⟨h.1, h.2.1⟩
  | _ => exact h

/-- A token's cells, tokens' cells. -/
def tc (t : Tk) : List Value := [.int .i64 (t.kind : Int), .string ⟨t.text.toArray⟩, .complex .f64 (fl false (t.re : Int)) (fl false (t.im : Int)), .int .i64 (t.pos : Int)]
def tcs (ts : List Tk) : List Value := ts.flatMap tc
theorem tcs_snoc (ts : List Tk) (t : Tk) : tcs (ts ++ [t]) = tcs ts ++ tc t := by unfold tcs; simp
theorem tcs_len (ts : List Tk) : (tcs ts).length = ts.length * 4 := by
  induction ts with
  | nil => rfl
  | cons t ts ih => unfold tcs at *; simp [tc, ih]; omega

/-- What holds each time the run comes to the label: the tokens so far lie in a row of their own; those of the rest are lacking. -/
structure Sst (s : ByteArray) (g : Nat) (w0 w' : World) (k : Nat) (v : Value) (ts : List Tk) (c0 c1 c2 c3 : Value) : Prop where
  bel : Below w0.heap.size w0 w'
  hg : w0.heap.size ≤ g
  blk : w'.heap[g]? = some (.cells #[c0, c1, c2, c3] 88 (0, 0))
  own : w'.ownsRow (g + 1) 88 4 v ts.length (tcs ts)
  res : spl s.data.toList 0 = match spl (s.data.toList.drop k) k with
    | .error e => .error e
    | .ok us => .ok (ts ++ us)

/-- What Split answers. -/
def SplR (w : World) (r : Except (Nat × Nat) (List Tk)) (e : Ending) (w' : World) : Prop :=
  match r with
  | .error (p, c) => e = .returned (.tuple #[.slice none 0 0, .int .i64 (p : Int), .int .i64 (c : Int)]) ∧ Below w.heap.size w w'
  | .ok ts => ∃ v, e = .returned (.tuple #[v, .int .i64 0, .int .i64 0]) ∧ w'.ownsRow w.heap.size 88 4 v ts.length (tcs ts) ∧ Below w.heap.size w w'

/-- One step of the text: the end; or what goes wrong; or a token, and the rest. -/
theorem step_cases (L : List UInt8) (k p : Nat) (hk : k ≤ L.length) (hp : k + gap false (L.drop k) = p) :
    (tat (L.drop p) p = (⟨0, [], 0, 0, p⟩, 0) ∧ spl (L.drop k) k = .ok [⟨0, [], 0, 0, p⟩] ∧ p ≤ L.length) ∨
    (∃ e, e ≠ 0 ∧ tat (L.drop p) p = (⟨0, [], 0, 0, 0⟩, e) ∧ spl (L.drop k) k = .error (p, e) ∧ p ≤ L.length) ∨
    (∃ (t : Tk) (n : Nat), t.kind ≠ 0 ∧ t.text.length = n ∧ 1 ≤ n ∧ p + n ≤ L.length ∧ tat (L.drop p) p = (t, 0) ∧
      spl (L.drop k) k = match spl (L.drop (p + n)) (p + n) with | .error e => .error e | .ok ts => .ok (t :: ts)) := by
  have hd : (L.drop k).drop (gap false (L.drop k)) = L.drop p := by rw [List.drop_drop, hp]
  have hgl := gap_le (L.drop k) false
  rw [List.length_drop] at hgl
  have hpl : p ≤ L.length := by omega
  by_cases hm : L.drop p = []
  · left
    rw [hm]
    refine ⟨rfl, ?_, hpl⟩
    rw [spl_end (hd.trans hm), hp]
  · right
    obtain ⟨c, r, hcr⟩ : ∃ c r, L.drop p = c :: r := by
      cases h : L.drop p with
      | nil => exact absurd h hm
      | cons c r => exact ⟨c, r, rfl⟩
    cases ht : tok (L.drop p) with
    | error e =>
      left
      refine ⟨e, ?_, ?_, ?_, hpl⟩
      · have := spl_places L L.length (L.drop p) p (by simp) hpl rfl
        have hg0 : gap false (L.drop p) = 0 := by rw [hcr]; exact gap_gap _ _ _ _ (hd.trans hcr)
        rw [spl_err (by rw [hg0]; rfl) hm ht] at this
        omega
      · unfold tat; rw [if_neg hm, ht]
      · rw [spl_err hd hm ht, hp]
    | ok q =>
      right
      obtain ⟨kd, n, x, y⟩ := q
      have hf := tok_facts (by rw [hcr] at ht; exact ht)
      rw [← hcr, List.length_drop] at hf
      refine ⟨⟨kd, (L.drop p).take n, x, y, p⟩, n, hf.2.2.2.2.1, ?_, hf.1, by omega, ?_, ?_⟩
      · simp only [List.length_take, List.length_drop]; omega
      · unfold tat; rw [if_neg hm, ht]
      · rw [spl_tok hd hm ht hf.1, hp, List.drop_drop]
        cases spl (L.drop (p + n)) (p + n) <;> rfl

theorem own_below {w w2 : World} {base : Nat} {e : TypeId} {size : Nat} {v : Value} {n : Nat} {xs : List Value} (h : w.ownsRow base e size v n xs) (hb : Below w.heap.size w w2) : w2.ownsRow base e size v n xs :=
  h.kept (row := none) ⟨hb.os, hb.tape, hb.output, hb.size, fun k hk _ => hb.block k hk⟩ (by cases hv : v.ownBlock <;> simp)
theorem own_base {w : World} {b b' : Nat} {e : TypeId} {size : Nat} {v : Value} {n : Nat} {xs : List Value} (h : w.ownsRow b e size v n xs) (hb : b' ≤ b) : w.ownsRow b' e size v n xs := by
  refine ⟨h.1, ?_⟩
  rcases h.2 with h | ⟨g, cap, cur, h1, h2, h3⟩
  · exact .inl h
  · exact .inr ⟨g, cap, cur, h1, by omega, h3⟩
theorem own_far {w : World} {g : Nat} {e : TypeId} {size : Nat} {v : Value} {n : Nat} {xs : List Value} (h : w.ownsRow (g + 1) e size v n xs) : some g ≠ v.ownBlock := by
  intro he
  have := (h.lt g he.symm).1
  omega
theorem new_cells3 (X : World) (cs : List Value) (t : TypeId) : ∀ j u, cs[j]? = some u → (X.alloc (.cells cs.toArray t)).cell? ((⟨X.heap.size, 0, Option.none⟩ : Addr).add j) = some u := by
  intro j u hu
  have hadd : (⟨X.heap.size, 0, Option.none⟩ : Addr).add j = ⟨X.heap.size, j, Option.none⟩ := by unfold Addr.add; split <;> simp_all
  rw [hadd, cell_of_row (X.alloc (.cells cs.toArray t)) X.heap.size j cs.toArray t (0, 0) (heap_alloc_new _ _)]
  simpa using hu
theorem new_cells' (X : World) (n : Nat) (hn : X.heap.size = n) (cs : List Value) (t : TypeId) : ∀ j u, cs[j]? = some u → (X.alloc (.cells cs.toArray t)).cell? ((⟨n, 0, Option.none⟩ : Addr).add j) = some u := by
  subst hn; exact new_cells3 X cs t
theorem tc_one (t : Tk) : ∀ u ∈ tc t, u.oneCell' = true := by
  intro u hu
  simp only [tc, List.mem_cons, List.not_mem_nil, or_false] at hu
  rcases hu with rfl | rfl | rfl | rfl <;> rfl
/-- Four cells stored into a block of four. -/
theorem blk_set43 {w : World} {g : Nat} {c0 c1 c2 c3 a b c d : Value} {t : TypeId} (h : w.heap[g]? = some (.cells #[c0, c1, c2, c3] t (0, 0))) :
    ((((w.setCell ⟨g, 0, Option.none⟩ a).setCell ⟨g, 1, Option.none⟩ b).setCell ⟨g, 2, Option.none⟩ c).setCell ⟨g, 3, Option.none⟩ d).heap[g]? = some (.cells #[a, b, c, d] t (0, 0)) := by
  rw [heap_setCell_same _ g 3 _ t d (heap_setCell_same _ g 2 _ t c (heap_setCell_same _ g 1 _ t b (heap_setCell_same _ g 0 _ t a h)))]
  rfl

/-- A token stored into the variable. -/
theorem sst_store {s : ByteArray} {g k : Nat} {w0 w' w2 : World} {v : Value} {ts : List Tk} {c0 c1 c2 c3 : Value} (h : Sst s g w0 w' k v ts c0 c1 c2 c3) (hb : Below w'.heap.size w' w2) (hg : g < w'.heap.size) (a b c d : Value) (X : World)
    (hX : X = (((w2.setCell ⟨g, 0, Option.none⟩ a).setCell ⟨g, 1, Option.none⟩ b).setCell ⟨g, 2, Option.none⟩ c).setCell ⟨g, 3, Option.none⟩ d) :
    Below w0.heap.size w0 X ∧ X.ownsRow (g + 1) 88 4 v ts.length (tcs ts) ∧ X.heap[g]? = some (.cells #[a, b, c, d] 88 (0, 0)) ∧ X.heap.size = w2.heap.size ∧ g < X.heap.size := by
  subst hX
  have h2 := hb.size
  refine ⟨((((h.bel.trans (hb.mono h.bel.size)).setCell h.hg _).setCell h.hg _).setCell h.hg _).setCell h.hg _, ownsRow_setCell_below (ownsRow_setCell_below (ownsRow_setCell_below (ownsRow_setCell_below (own_below h.own hb) (Nat.lt_succ_self g) _) (Nat.lt_succ_self g) _) (Nat.lt_succ_self g) _) (Nat.lt_succ_self g) _, blk_set43 ((hb.block g hg).trans h.blk), by simp, by simp; omega⟩
/-- A token appended. -/
theorem sst_app {g : Nat} {w0 X w4 : World} {v : Value} {a b c d : Value} {o : Obj} {n : Nat} {xs : List Value} (h1 : Below w0.heap.size w0 X) (h0 : w0.heap.size ≤ g) (h2 : X.ownsRow (g + 1) 88 4 v n xs) (h3 : X.heap[g]? = some (.cells #[a, b, c, d] 88 (0, 0))) (hg : g < X.heap.size)
    (hgr : (X.alloc o).grownBy w4 v.ownBlock) : Below w0.heap.size w0 w4 ∧ w4.heap[g]? = some (.cells #[a, b, c, d] 88 (0, 0)) := by
  refine ⟨(h1.alloc h1.size o).grown hgr (by simp; have := h1.size; omega) (fun q hq => by have := (h2.lt q hq).1; omega), ?_⟩
  rw [hgr.block g (by simp; omega) (own_far h2), Below.heap_alloc _ _ _ hg]
  exact h3

theorem tk_info : (Tryz.prog.info? 88).map (fun i => (i.zero, i.size, i.bytes)) = some (some (.agg #[.int .i64 0, .string ⟨#[]⟩, .complex .f64 0 0, .int .i64 0]), 4, 48) := by kernel_rfl

theorem clone_any (s : ByteArray) (hs : s.size ≤ 16384) (w : World) : Calls Tryz.prog 65 #[.string s] w fun e w' => e = .returned (.string s) ∧ Below w.heap.size w w' := by
  go_enter Tryz.func65, Tryz.ntmps65
  go_wp2_with (go_at_call 99; refine (Tryz.stringslite_Clone s _ (by omega)).mono ?_; rintro e w' ⟨rfl, hb⟩)
  go_ret
  exact ⟨rfl, hb⟩

theorem split_big (s : ByteArray) (hs : 16384 < s.size) (w : World) : Calls Tryz.prog 35 #[.string s] w fun e w' => e = .returned (.tuple #[.slice none 0 0, .int .i64 0, .int .i64 2]) ∧ w = w' := by
  have hs' : (16384 : Int) < (s.size : Int) := by omega
  go_enter Tryz.func35, Tryz.ntmps35
  go_wp2
  go_step3
  go_wp2
  rw [Exit.noGoto_ret]
  go_ret3
  exact ⟨rfl, rfl⟩

set_option maxRecDepth 100000 in
set_option maxHeartbeats 8000000 in
theorem split_any (s : ByteArray) (hs : s.size ≤ 16384) (w0 : World) (hb : Lb w0) : Calls Tryz.prog 35 #[.string s] w0 (SplR w0 (spl s.data.toList 0)) := by
  have HB := Lib.hid hb
  have hst := store_cx3
  have hcl := clone_any s hs
  obtain ⟨R, hR⟩ : ∃ R, spl s.data.toList 0 = R := ⟨_, rfl⟩
  have HR := Lib.hid hR
  rw [hR]
  clear hb hR
  have hs' : ¬ (16384 : Int) < (s.size : Int) := by omega
  obtain ⟨i0, hi0, hz0, hz1, hz2⟩ := info_parts tk_info
  have HI := Lib.hid hi0
  have HZ0 := Lib.hid hz0
  have HZ1 := Lib.hid hz1
  have HZ2 := Lib.hid hz2
  clear hi0 hz0 hz1 hz2
  go_enter Tryz.func35, Tryz.ntmps35
  go_wp2
  refine scope1k 0 (fun a' w' => ∃ g : Nat, (fun a' w' => ∃ (k : Nat) (v : Value) (ts : List Tk) (c0 c1 c2 c3 : Value) (u9 u10 u11 u12 u13 u14 u15 u16 u17 u18 u19 u20 u21 u22 u23 u24 u25 u26 u27 u28 u29 u30 u31 u32 u33 u34 u35 u36 u37 u38 : Value), a' = { tmps := #[.string s, undef, .slice none 0 0, .int .i64 0, .int .i64 0, v, .pointer (some ⟨g, 0, Option.none⟩), .int .i64 0, .int .i64 (k : Int), u9, u10, u11, u12, u13, u14, u15, u16, u17, u18, u19, u20, u21, u22, u23, u24, u25, u26, u27, u28, u29, u30, u31, u32, u33, u34, u35, u36, u37, u38, undef], defers := [] } ∧ k ≤ s.size ∧ ts.length ≤ k ∧ Hid (Sst s g w0 w' k v ts c0 c1 c2 c3)) a' w') (fun a' _ => s.size + 1 - (intOf (a'.tmps.getD 8 undef)).toNat) rfl ?_ ?_
  · rintro a' w' ⟨g, k, v, ts, c0, c1, c2, c3, u9, u10, u11, u12, u13, u14, u15, u16, u17, u18, u19, u20, u21, u22, u23, u24, u25, u26, u27, u28, u29, u30, u31, u32, u33, u34, u35, u36, u37, u38, rfl, hk, htk, HS⟩
    obtain ⟨p, hp⟩ : ∃ p, k + gap false (s.data.toList.drop k) = p := ⟨_, rfl⟩
    have hgp := behindGap_any s k hk (by omega) w'
    rw [hp] at hgp
    have hcs := step_cases s.data.toList k p (by rw [size_len]; exact hk) hp
    have hkp : k ≤ p := by omega
    rw [size_len] at hcs
    have hLb : Lb w' := HB.out.on HS.out.bel
    have hta := fun hps => tokenAt_any s p hps hs w' hLb
    have hglt : g < w'.heap.size := by
      rcases Nat.lt_or_ge g w'.heap.size with h | h
      · exact h
      · have := HS.out.blk; rw [Array.getElem?_eq_none h] at this; cases this
    have HTA := Lib.hid hta
    clear hp hLb hta hcl
    rcases hcs with ⟨q1, q2, q3⟩ | ⟨er, q0, q1, q2, q3⟩ | ⟨t, n, q0, qn, qn1, q3, q1, q2⟩
    · have hres := HS.out.res
      rw [HR.out, q2] at hres
      simp only at hres
      subst hres
      have hta := HTA.out q3
      rw [q1] at hta
      clear HTA q1 q2
      go_wp2_with (first
        | (go_at_call 66; refine hgp.mono ?_; rintro e w2 ⟨rfl, rfl⟩)
        | (go_at_call 67; refine Hid.out ?_))
      refine Lib.hid ?_
      refine hta.mono ?_
      rintro e w2 ⟨rfl, hbel⟩
      have HBE := Lib.hid hbel
      have HBL : Hid (w2.heap[g]? = some (.cells #[c0, c1, c2, c3] 88 (0, 0))) := Lib.hid ((hbel.block g hglt).trans HS.out.blk)
      have k0 : w2.cell? ⟨g, 0, Option.none⟩ = some c0 := cell_of_row w2 g 0 _ 88 (0, 0) HBL.out
      have k1 : w2.cell? ⟨g, 1, Option.none⟩ = some c1 := cell_of_row w2 g 1 _ 88 (0, 0) HBL.out
      have k2 : w2.cell? ⟨g, 2, Option.none⟩ = some c2 := cell_of_row w2 g 2 _ 88 (0, 0) HBL.out
      have k3 : w2.cell? ⟨g, 3, Option.none⟩ = some c3 := cell_of_row w2 g 3 _ 88 (0, 0) HBL.out
      have f0 := frozen_of_row w2 g 0 _ 88 HBL.out
      have f1 := frozen_of_row w2 g 1 _ 88 HBL.out
      have f2 := frozen_of_row w2 g 2 _ 88 HBL.out
      have f3 := frozen_of_row w2 g 3 _ 88 HBL.out
      clear hbel hta
      go_wp2_with (at_builtin; refine Hid.out ?_)
      refine Lib.hid ?_
      obtain ⟨X, hX⟩ : ∃ X, X = (((w2.setCell ⟨g, 0, Option.none⟩ (.int .i64 (0 : Int))).setCell ⟨g, 1, Option.none⟩ (.string ⟨#[]⟩)).setCell ⟨g, 2, Option.none⟩ (.complex .f64 (fl false (0 : Int)) (fl false (0 : Int)))).setCell ⟨g, 3, Option.none⟩ (.int .i64 (p : Int)) := ⟨_, rfl⟩
      obtain ⟨x1, x2, x3, x4, x5⟩ := sst_store HS.out HBE.out hglt _ _ _ _ X hX
      rw [← hX]
      refine wpList_append_own_at _ rfl (.tmp 27) (.tmp 29) 71 rfl (g + 1) 88 i0 _ 4 48 Tryz.underlying71 HI.out HZ0.out HZ1.out HZ2.out rfl (by decide) v ts.length (tcs ts) rfl (x2.alloc _) ⟨w2.heap.size, 0, Option.none⟩ 1 1 (tc ⟨0, [], 0, 0, p⟩) rfl rfl
        (new_cells' X _ x4 (tc ⟨0, [], 0, 0, p⟩) 88) (tc_one _) (by unfold maxLen; omega) (by omega) (by simp; omega) ?_
      intro v' w4 hown' hgr _ _
      obtain ⟨y1, y2⟩ := sst_app x1 HS.out.hg x2 x3 x5 hgr
      have hk0 : w4.cell? ⟨g, 0, Option.none⟩ = some (.int .i64 (0 : Int)) := cell_of_row w4 g 0 _ 88 (0, 0) y2
      have hk1 : w4.cell? ⟨g, 1, Option.none⟩ = some (.string ⟨#[]⟩) := cell_of_row w4 g 1 _ 88 (0, 0) y2
      have HY1 := Lib.hid y1
      have HY2 := Lib.hid y2
      have HO := Lib.hid hown'
      have HG0 := Lib.hid HS.out.hg
      clear hX x1 x2 x3 x4 x5 hgr y1 y2 hown' k0 k1 k2 k3 f0 f1 f2 f3 HBE HBL
      go_wp2
      simp only [Exit.jump]
      go_ret3
      refine ⟨v', rfl, ?_, HY1.out⟩
      have := own_base HO.out (Nat.le_trans HG0.out (Nat.le_succ g))
      rw [← tcs_snoc] at this
      simpa using this
    · have hres := HS.out.res
      rw [HR.out, q2] at hres
      simp only at hres
      subst hres
      have hta := HTA.out q3
      rw [q1] at hta
      have hne : ((er : Int) != 0) = true := by simp; exact q0
      clear HTA q1 q2 q0
      go_wp2_with (first
        | (go_at_call 66; refine hgp.mono ?_; rintro e w2 ⟨rfl, rfl⟩)
        | (go_at_call 67; refine Hid.out ?_))
      refine Lib.hid ?_
      refine hta.mono ?_
      rintro e w2 ⟨rfl, hbel⟩
      have HBE := Lib.hid hbel
      have HBL : Hid (w2.heap[g]? = some (.cells #[c0, c1, c2, c3] 88 (0, 0))) := Lib.hid ((hbel.block g hglt).trans HS.out.blk)
      have k0 : w2.cell? ⟨g, 0, Option.none⟩ = some c0 := cell_of_row w2 g 0 _ 88 (0, 0) HBL.out
      have k1 : w2.cell? ⟨g, 1, Option.none⟩ = some c1 := cell_of_row w2 g 1 _ 88 (0, 0) HBL.out
      have k2 : w2.cell? ⟨g, 2, Option.none⟩ = some c2 := cell_of_row w2 g 2 _ 88 (0, 0) HBL.out
      have k3 : w2.cell? ⟨g, 3, Option.none⟩ = some c3 := cell_of_row w2 g 3 _ 88 (0, 0) HBL.out
      have f0 := frozen_of_row w2 g 0 _ 88 HBL.out
      have f1 := frozen_of_row w2 g 1 _ 88 HBL.out
      have f2 := frozen_of_row w2 g 2 _ 88 HBL.out
      have f3 := frozen_of_row w2 g 3 _ 88 HBL.out
      clear hbel hta
      go_wp2
      simp only [Exit.jump]
      go_ret3
      exact ⟨rfl, ((((HS.out.bel.trans (HBE.out.mono HS.out.bel.size)).setCell HS.out.hg _).setCell HS.out.hg _).setCell HS.out.hg _).setCell HS.out.hg _⟩
    · have hta := HTA.out (by omega)
      rw [q1] at hta
      have hkn : ((t.kind : Int) != 0) = true := by simp; exact q0
      have hsz : (⟨t.text.toArray⟩ : ByteArray).size = n := (size_mk _).trans qn
      have HRES : Hid (spl s.data.toList 0 = match spl (s.data.toList.drop (p + n)) (p + n) with
          | .error e => .error e
          | .ok us => .ok ((ts ++ [t]) ++ us)) := Lib.hid (by
        rw [HS.out.res, q2]
        cases spl (s.data.toList.drop (p + n)) (p + n) with
        | error e => rfl
        | ok us => simp)
      have QN := Lib.hid qn
      clear HTA q1 q2 q0 qn
      go_wp2_with (first
        | (go_at_call 66; refine hgp.mono ?_; rintro e w2 ⟨rfl, rfl⟩)
        | (go_at_call 67; refine Hid.out ?_))
      refine Lib.hid ?_
      refine hta.mono ?_
      rintro e w2 ⟨rfl, hbel⟩
      have HBE := Lib.hid hbel
      have HBL : Hid (w2.heap[g]? = some (.cells #[c0, c1, c2, c3] 88 (0, 0))) := Lib.hid ((hbel.block g hglt).trans HS.out.blk)
      have k0 : w2.cell? ⟨g, 0, Option.none⟩ = some c0 := cell_of_row w2 g 0 _ 88 (0, 0) HBL.out
      have k1 : w2.cell? ⟨g, 1, Option.none⟩ = some c1 := cell_of_row w2 g 1 _ 88 (0, 0) HBL.out
      have k2 : w2.cell? ⟨g, 2, Option.none⟩ = some c2 := cell_of_row w2 g 2 _ 88 (0, 0) HBL.out
      have k3 : w2.cell? ⟨g, 3, Option.none⟩ = some c3 := cell_of_row w2 g 3 _ 88 (0, 0) HBL.out
      have f0 := frozen_of_row w2 g 0 _ 88 HBL.out
      have f1 := frozen_of_row w2 g 1 _ 88 HBL.out
      have f2 := frozen_of_row w2 g 2 _ 88 HBL.out
      have f3 := frozen_of_row w2 g 3 _ 88 HBL.out
      clear hbel hta
      go_wp2_with (at_builtin; refine Hid.out ?_)
      refine Lib.hid ?_
      obtain ⟨X, hX⟩ : ∃ X, X = (((w2.setCell ⟨g, 0, Option.none⟩ (.int .i64 (t.kind : Int))).setCell ⟨g, 1, Option.none⟩ (.string ⟨t.text.toArray⟩)).setCell ⟨g, 2, Option.none⟩ (.complex .f64 (fl false (t.re : Int)) (fl false (t.im : Int)))).setCell ⟨g, 3, Option.none⟩ (.int .i64 (t.pos : Int)) := ⟨_, rfl⟩
      obtain ⟨x1, x2, x3, x4, x5⟩ := sst_store HS.out HBE.out hglt _ _ _ _ X hX
      rw [← hX]
      refine wpList_append_own_at _ rfl (.tmp 27) (.tmp 29) 71 rfl (g + 1) 88 i0 _ 4 48 Tryz.underlying71 HI.out HZ0.out HZ1.out HZ2.out rfl (by decide) v ts.length (tcs ts) rfl (x2.alloc _) ⟨w2.heap.size, 0, Option.none⟩ 1 1 (tc t) rfl rfl
        (new_cells' X _ x4 (tc t) 88) (tc_one _) (by unfold maxLen; omega) (by omega) (by simp; omega) ?_
      intro v' w4 hown' hgr _ _
      obtain ⟨y1, y2⟩ := sst_app x1 HS.out.hg x2 x3 x5 hgr
      have hk0 : w4.cell? ⟨g, 0, Option.none⟩ = some (.int .i64 (t.kind : Int)) := cell_of_row w4 g 0 _ 88 (0, 0) y2
      have hk1 : w4.cell? ⟨g, 1, Option.none⟩ = some (.string ⟨t.text.toArray⟩) := cell_of_row w4 g 1 _ 88 (0, 0) y2
      have HY1 := Lib.hid y1
      have HY2 := Lib.hid y2
      have HO := Lib.hid hown'
      have HG0 := Lib.hid HS.out.hg
      clear hX x1 x2 x3 x4 x5 hgr y1 y2 hown' k0 k1 k2 k3 f0 f1 f2 f3 HBE HBL
      go_wp2
      go_step3
      refine ⟨rfl, ⟨g, p + n, v', ts ++ [t], _, _, _, _, _, _, _, _, _, _, _, _, _, _, _, _, _, _, _, _, _, _, _, _, _, _, _, _, _, _, _, _, _, _, rfl, by omega, by simp; omega, Lib.hid ⟨HY1.out, HG0.out, HY2.out, ?_, HRES.out⟩⟩, ?_⟩
      · have := HO.out
        rw [← tcs_snoc] at this
        simpa using this
      · simp [intOf]
        omega
  · intro hpass
    have HPASS := Lib.hid hpass
    clear hpass
    go_wp2_with (go_at_call 65; refine Hid.out ?_)
    refine Lib.hid ?_
    refine (hcl _).mono ?_
    rintro e w1 ⟨rfl, hbel⟩
    have HB1 := Lib.hid hbel
    clear hbel
    go_wp2
    go_step3
    rename_i K hK
    refine hK _ _ ?_
    refine HPASS.out _ _ ?_
    refine ⟨w1.heap.size, 0, .slice none 0 0, [], _, _, _, _, _, _, _, _, _, _, _, _, _, _, _, _, _, _, _, _, _, _, _, _, _, _, _, _, _, _, _, _, _, _, rfl, by omega, by simp, Lib.hid ⟨HB1.out.alloc HB1.out.size _, HB1.out.size, heap_alloc_new _ _, World.ownsRow_nil _ _ _ _, ?_⟩⟩
    rw [List.drop_zero]
    cases spl s.data.toList 0 <;> rfl
end Go.Proofs.YtgiioflkclkioaaGreatDoor
