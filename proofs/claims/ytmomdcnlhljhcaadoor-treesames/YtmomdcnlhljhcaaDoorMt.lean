/- The law's statements, as a plain function of what was drawn; how they lie while they are made. -/
import Derived.Test.YtmomdcnlhljhcaaDoorMp
set_option linter.unusedSimpArgs false
set_option linter.unusedVariables false
namespace Go.Proofs.YtmomdcnlhljhcaaDoor
open Go.RowKit Ieee

/-- The statements, and what is left; fuel: as much as the list is long is enough. -/
def srun (x : Sml) : Nat → List S5 → Nat → Nat → Sts × List S5
  | 0, l, _, _ => (.nil, l)
  | _ + 1, [], _, _ => (.nil, [])
  | _ + 1, s :: l, 0, _ => (.nil, s :: l)
  | f + 1, s :: l, most + 1, deep =>
    if 15 ≤ aKd s.d then
      match deep with
      | 0 => srun x f l most 0
      | d + 1 =>
        let b := srun x f l (s.c % 4) d
        let e := if aKd s.d = 15 ∧ s.c / 4 % 2 = 1 then srun x f b.2 (1 + s.c / 8 % 2) d else (.nil, b.2)
        let r := srun x f e.2 most (d + 1)
        (.cons (aKd s.d) (aRg s) (aNm x s) (aIx x s) (aXs x s) b.1 e.1 r.1, r.2)
    else
      let r := srun x f l most deep
      if aOk x s then (.cons (aKd s.d) (aRg s) (aNm x s) (aIx x s) (aXs x s) .nil .nil r.1, r.2) else r
theorem srun_left (x : Sml) : ∀ (f : Nat) (l : List S5) (most deep : Nat), (srun x f l most deep).2.length ≤ l.length := by
  intro f
  induction f with
  | zero => intro l m d; simp [srun]
  | succ f ih =>
    intro l m d
    cases l with
    | nil => simp [srun]
    | cons s l =>
      cases m with
      | zero => simp [srun]
      | succ m =>
        unfold srun
        split
        · cases d with
          | zero => exact Nat.le_trans (ih l m 0) (by simp)
          | succ d =>
            simp only
            have h1 := ih l (s.c % 4) d
            refine Nat.le_trans (ih _ _ _) ?_
            split
            · refine Nat.le_trans (ih _ _ _) (Nat.le_trans h1 (by simp))
            · exact Nat.le_trans h1 (by simp)
        · simp only
          have := ih l m d
          split
          · exact Nat.le_trans this (by simp)
          · exact Nat.le_trans this (by simp)
theorem srun_sub (x : Sml) : ∀ (f : Nat) (l : List S5) (most deep : Nat) (s : S5), s ∈ (srun x f l most deep).2 → s ∈ l := by
  intro f
  induction f with
  | zero => intro l m d s h; simpa [srun] using h
  | succ f ih =>
    intro l m d t ht
    cases l with
    | nil => simp [srun] at ht
    | cons s l =>
      cases m with
      | zero => simpa [srun] using ht
      | succ m =>
        unfold srun at ht
        split at ht
        · cases d with
          | zero => exact List.mem_cons_of_mem _ (ih _ _ _ _ ht)
          | succ d =>
            simp only at ht
            have h1 := ih _ _ _ _ ht
            split at h1
            · exact List.mem_cons_of_mem _ (ih _ _ _ _ (ih _ _ _ _ h1))
            · exact List.mem_cons_of_mem _ (ih _ _ _ _ h1)
        · simp only at ht
          split at ht
          · exact List.mem_cons_of_mem _ (ih _ _ _ _ ht)
          · exact List.mem_cons_of_mem _ (ih _ _ _ _ ht)
/-- They are right. -/
theorem srun_right (x : Sml) : ∀ (f : Nat) (l : List S5) (most deep : Nat), Ws (srun x f l most deep).1 := by
  intro f
  induction f with
  | zero => intro l m d; trivial
  | succ f ih =>
    intro l m d
    cases l with
    | nil => trivial
    | cons s l =>
      cases m with
      | zero => trivial
      | succ m =>
        unfold srun
        split
        · rename_i h15
          cases d with
          | zero => exact ih l m 0
          | succ d =>
            simp only
            refine ⟨aStmt_right x s, fun h => absurd h (by omega), fun h => ?_, ih _ _ _, ?_, ih _ _ _⟩
            · rw [if_neg (fun hh => h hh.1)]
            · split
              · exact ih _ _ _
              · trivial
        · rename_i h15
          simp only
          split
          · exact ⟨aStmt_right x s, fun _ => rfl, fun _ => rfl, trivial, trivial, ih _ _ _⟩
          · exact ih _ _ _
/-- How many there are at most, bodies and all. -/
def Sts.all : Sts → Nat
  | .nil => 0
  | .cons _ _ _ _ _ b e r => 1 + b.all + e.all + r.all
theorem srun_all (x : Sml) : ∀ (f : Nat) (l : List S5) (most deep : Nat), (srun x f l most deep).1.all + (srun x f l most deep).2.length ≤ l.length := by
  intro f
  induction f with
  | zero => intro l m d; simp [srun, Sts.all]
  | succ f ih =>
    intro l m d
    cases l with
    | nil => simp [srun, Sts.all]
    | cons s l =>
      cases m with
      | zero => simp [srun, Sts.all]
      | succ m =>
        unfold srun
        split
        · cases d with
          | zero => exact Nat.le_trans (ih l m 0) (by simp)
          | succ d =>
            simp only
            have h1 := ih l (s.c % 4) d
            split
            · have h2 := ih (srun x f l (s.c % 4) d).2 (1 + s.c / 8 % 2) d
              have h3 := ih (srun x f (srun x f l (s.c % 4) d).2 (1 + s.c / 8 % 2) d).2 m (d + 1)
              simp only [Sts.all, List.length_cons]
              omega
            · have h3 := ih (srun x f l (s.c % 4) d).2 m (d + 1)
              simp only [Sts.all, List.length_cons]
              omega
        · simp only
          have := ih l m d
          split
          · simp only [Sts.all, List.length_cons]; omega
          · simp only [List.length_cons]; omega
theorem Sts.len_all (l : Sts) : l.len ≤ l.all := by
  induction l with
  | nil => simp [Sts.len, Sts.all]
  | cons k rg nm ix xs b e r _ _ ih => simp only [Sts.len, Sts.all]; omega

/-! ### In memory -/
def C5 (w : World) (g o : Nat) (s : S5) : Prop :=
  w.cell? ⟨g, o, none⟩ = some (.int .u8 (s.d : Int)) ∧ w.cell? ⟨g, o + 1, none⟩ = some (.int .u8 (s.a : Int)) ∧ w.cell? ⟨g, o + 2, none⟩ = some (.int .u8 (s.b : Int)) ∧
  w.cell? ⟨g, o + 3, none⟩ = some (.int .u8 (s.c : Int)) ∧ w.cell? ⟨g, o + 4, none⟩ = some (.int .i8 s.n)
/-- What was drawn, as a slice. -/
def Lsv (w : World) (B : Nat) (l : List S5) (v : Value) : Prop :=
  ∃ p cap, v = .slice p l.length cap ∧ l.length ≤ cap ∧ cap ≤ maxLen ∧ (l ≠ [] → ∃ g o, p = some ⟨g, o, none⟩ ∧ g < B ∧ ∀ i s, l[i]? = some s → C5 w g (o + i * 5) s)
theorem C5.below {w w' : World} {B g o : Nat} {s : S5} (h : C5 w g o s) (hb : Below B w w') (hg : g < B) : C5 w' g o s := by
  obtain ⟨a, b, c, d, e⟩ := h
  exact ⟨(hb.cell (p := ⟨g, _, none⟩) hg).trans a, (hb.cell (p := ⟨g, _, none⟩) hg).trans b, (hb.cell (p := ⟨g, _, none⟩) hg).trans c, (hb.cell (p := ⟨g, _, none⟩) hg).trans d, (hb.cell (p := ⟨g, _, none⟩) hg).trans e⟩
theorem Lsv.below {w w' : World} {B : Nat} {l : List S5} {v : Value} (h : Lsv w B l v) (hb : Below B w w') : Lsv w' B l v := by
  obtain ⟨p, cap, h1, h2, h3, h4⟩ := h
  refine ⟨p, cap, h1, h2, h3, fun hne => ?_⟩
  obtain ⟨g, o, h5, h6, h7⟩ := h4 hne
  exact ⟨g, o, h5, h6, fun i s hi => (h7 i s hi).below hb h6⟩
theorem Lsv.mono {w : World} {B B' : Nat} {l : List S5} {v : Value} (h : Lsv w B l v) (hb : B ≤ B') : Lsv w B' l v := by
  obtain ⟨p, cap, h1, h2, h3, h4⟩ := h
  refine ⟨p, cap, h1, h2, h3, fun hne => ?_⟩
  obtain ⟨g, o, h5, h6, h7⟩ := h4 hne
  exact ⟨g, o, h5, Nat.lt_of_lt_of_le h6 hb, h7⟩
theorem tail53 (g o ln cap : Nat) (h1 : 1 ≤ ln) (hc : ln ≤ cap) : ∃ X, (∀ W : World, (Instr.slice 53 (.slice (some ⟨g, o, none⟩) ln cap) (some (.int .i64 1)) none none).run Tryd.prog W = .ok (.slice X (ln - 1) (cap - 1)) W) ∧ (2 ≤ ln → X = some ⟨g, o + 5, none⟩) := by
  refine ⟨if cap = 1 then some ⟨g, o, none⟩ else some ⟨g, o + 5, none⟩, fun W => ?_, fun h => if_neg (by omega)⟩
  have h2 : (1 : Int) ≤ (ln : Int) := by omega
  have h3 : (1 : Int) ≤ (cap : Int) := by omega
  go_simp
/-- The first one, and the rest. -/
theorem Lsv.cons {w : World} {B : Nat} {s : S5} {l : List S5} {v : Value} (h : Lsv w B (s :: l) v) : ∃ g o cap X, v = .slice (some ⟨g, o, none⟩) (l.length + 1) cap ∧ l.length + 1 ≤ cap ∧ cap ≤ maxLen ∧ g < B ∧ C5 w g o s ∧
    (∀ W : World, (Instr.slice 53 (.slice (some ⟨g, o, none⟩) (l.length + 1) cap) (some (.int .i64 1)) none none).run Tryd.prog W = .ok (.slice X l.length (cap - 1)) W) ∧ Lsv w B l (.slice X l.length (cap - 1)) := by
  obtain ⟨p, cap, h1, h2, h3, h4⟩ := h
  obtain ⟨g, o, h5, h6, h7⟩ := h4 (by simp)
  rw [h5] at h1
  obtain ⟨X, hX, hX1⟩ := tail53 g o (l.length + 1) cap (by omega) (by simpa using h2)
  refine ⟨g, o, cap, X, by simpa using h1, by simpa using h2, h3, h6, by simpa using h7 0 s rfl, hX, ?_⟩
  refine ⟨X, cap - 1, rfl, by simp at h2; omega, by omega, fun hne => ⟨g, o + 5, hX1 ?_, h6, fun i t hi => ?_⟩⟩
  · have : 0 < l.length := List.length_pos_iff.2 hne
    omega
  · have := h7 (i + 1) t (by simpa using hi)
    rw [show o + 5 + i * 5 = o + (i + 1) * 5 by omega]
    exact this
theorem Lsv.nil {w : World} {B : Nat} {v : Value} (h : Lsv w B [] v) : ∃ p cap, v = .slice p 0 cap ∧ cap ≤ maxLen := by
  obtain ⟨p, cap, h1, h2, h3, _⟩ := h
  exact ⟨p, cap, by simpa using h1, h3⟩

/-- A statement with where its parts lie. -/
structure Sr where
  k : Nat
  rg : List UInt8
  nm : List UInt8
  ix : Bool
  xs : List Ex
  b : Sts
  e : Sts
  px : Option Addr
  cx : Nat
  pb : Option Addr
  cb : Nat
  pe : Option Addr
  ce : Nat
def Sr.cs (z : Sr) : List Value := [.int .i64 (z.k : Int), .string ⟨z.rg.toArray⟩, .string ⟨z.nm.toArray⟩, .bool z.ix, .slice z.px z.xs.length z.cx, .slice z.pb z.b.len z.cb, .slice z.pe z.e.len z.ce, .int .i64 0]
def scs (qs : List Sr) : List Value := qs.flatMap Sr.cs
def sof : List Sr → Sts
  | [] => .nil
  | z :: qs => .cons z.k z.rg z.nm z.ix z.xs z.b z.e (sof qs)
theorem scs_app (a b : List Sr) : scs (a ++ b) = scs a ++ scs b := by simp [scs]
theorem sof_app (a b : List Sr) : sof (a ++ b) = (sof a).app (sof b) := by
  induction a with
  | nil => rfl
  | cons z a ih => simp [sof, Sts.app, ih]
theorem sof_len (a : List Sr) : (sof a).len = a.length := by
  induction a with
  | nil => rfl
  | cons z a ih => simp [sof, Sts.len, ih]
structure Sq (w : World) (S : Nat → Prop) (z : Sr) : Prop where
  x : XsV w S z.xs z.px z.cx
  b : StsV w S z.b z.pb z.cb
  e : StsV w S z.e z.pe z.ce
theorem Sq.on {S S' : Nat → Prop} {w w' : World} {z : Sr} (h : Sq w S z) (hs : Same S w w') (hS : ∀ g, S g → S' g) : Sq w' S' z := ⟨h.x.on hs hS, h.b.on hs hS, h.e.on hs hS⟩
/-- Statements in a row of one's own; their parts elsewhere. -/
structure So (wx : World) (n : Nat) (qs : List Sr) (v : Value) : Prop where
  own : wx.ownsRow n 87 8 v qs.length (scs qs)
  sq : ∀ z ∈ qs, Sq wx (fun g => n ≤ g ∧ g < wx.heap.size ∧ v.ownBlock ≠ some g) z
theorem So.nil (wx : World) (n : Nat) : So wx n [] (.slice none 0 0) := ⟨World.ownsRow_nil _ _ _ _, by simp⟩
theorem So.keep {wx w2 : World} {n : Nat} {qs : List Sr} {v : Value} (h : So wx n qs v) (hb : Below wx.heap.size wx w2) : So w2 n qs v :=
  ⟨own_below h.own hb, fun z hz => (h.sq z hz).on (Same.below hb (fun g hg => hg.2.1)) (fun g hg => ⟨hg.1, Nat.lt_of_lt_of_le hg.2.1 hb.size, hg.2.2⟩)⟩
/-- A new one behind them. -/
theorem So.app {wx w2 w3 : World} {n g cap : Nat} {o : Obj} {qs : List Sr} {z : Sr} {v : Value} (h : So wx n qs v) (hn : n ≤ wx.heap.size) (hb : Below wx.heap.size wx w2)
    (hp : Sq w2 (fun g => wx.heap.size ≤ g ∧ g < w2.heap.size) z) (hg : (w2.alloc o).grownBy w3 v.ownBlock) (hat : v.ownBlock = some g ∨ g = w2.heap.size + 1)
    (ho : w3.ownsRow n 87 8 (.slice (some ⟨g, 0, none⟩) (qs.length + 1) cap) (qs.length + 1) (scs qs ++ z.cs)) : So w3 n (qs ++ [z]) (.slice (some ⟨g, 0, none⟩) (qs.length + 1) cap) := by
  have hz2 := hb.size
  have hz3 := hg.size
  simp at hz3
  have hk : ∀ j, j < w2.heap.size → v.ownBlock ≠ some j → w3.heap[j]? = w2.heap[j]? := fun j hj hne => by
    rw [hg.block j (by simp; omega) (fun e => hne e.symm), Below.heap_alloc _ _ _ hj]
  have hvlt : ∀ j, v.ownBlock = some j → j < wx.heap.size := fun j hj => (h.own.lt j hj).2
  refine ⟨by rw [List.length_append, scs_app]; simpa [scs] using ho, ?_⟩
  intro y hy
  rcases List.mem_append.1 hy with hy | hy
  · have h1 := (h.sq y hy).on (Same.below hb (fun g hg => hg.2.1)) (S' := fun g => n ≤ g ∧ g < wx.heap.size ∧ v.ownBlock ≠ some g) (fun g hg => hg)
    refine h1.on (fun b o' hb' => World.cell?_of_block (a := ⟨b, o', none⟩) (hk b (by have := hb'.2.1; omega) hb'.2.2)) (fun b hb' => ⟨hb'.1, by have := hb'.2.1; omega, ?_⟩)
    simp only [Value.ownBlock]
    intro he
    injection he with he
    rcases hat with hat | hat
    · exact hb'.2.2 (by rw [hat, he])
    · have := hb'.2.1; omega
  · rw [List.mem_singleton] at hy
    subst hy
    refine hp.on (fun b o' hb' => World.cell?_of_block (a := ⟨b, o', none⟩) (hk b hb'.2 (fun e => by have := hvlt b e; have := hb'.1; omega))) (fun b hb' => ⟨by have := hb'.1; omega, by have := hb'.2; omega, ?_⟩)
    simp only [Value.ownBlock]
    intro he
    injection he with he
    rcases hat with hat | hat
    · have := hvlt g hat; have := hb'.1; omega
    · have := hb'.2; omega
theorem scs_at (qs : List Sr) : ∀ (i j : Nat) (y : Sr), qs[i]? = some y → j < 8 → (scs qs)[i * 8 + j]? = y.cs[j]? := by
  induction qs with
  | nil => intro i j y h; simp at h
  | cons u us ih =>
    intro i j y h hj
    have e : scs (u :: us) = u.cs ++ scs us := rfl
    have hl : u.cs.length = 8 := rfl
    rw [e]
    cases i with
    | zero =>
      simp only [List.getElem?_cons_zero, Option.some.injEq] at h
      subst h
      rw [List.getElem?_append_left (by omega)]
      simp
    | succ i =>
      rw [List.getElem?_cons_succ] at h
      rw [List.getElem?_append_right (by omega), show (i + 1) * 8 + j - u.cs.length = i * 8 + j by omega]
      exact ih i j y h hj
theorem at_of {w : World} {S : Nat → Prop} {g : Nat} : ∀ (qs : List Sr) (o : Nat), (∀ i y, qs[i]? = some y → (∀ j, j < 8 → w.cell? ⟨g, o + i * 8 + j, none⟩ = y.cs[j]?) ∧ Sq w S y) → StsAt w S (sof qs) g o := by
  intro qs
  induction qs with
  | nil => intro o _; trivial
  | cons z qs ih =>
    intro o h
    obtain ⟨h0, hs⟩ := h 0 z rfl
    rw [sof, StsAt_cons]
    refine ⟨⟨z.px, z.cx, z.pb, z.cb, z.pe, z.ce, ?_, hs.x, hs.b, hs.e⟩, ih (o + 8) fun i y hi => ?_⟩
    · have k := fun j hj => h0 j hj
      simp only [Nat.zero_mul, Nat.add_zero] at k
      exact ⟨k 0 (by omega), k 1 (by omega), k 2 (by omega), k 3 (by omega), k 4 (by omega), k 5 (by omega), k 6 (by omega), k 7 (by omega)⟩
    · obtain ⟨h1, h2⟩ := h (i + 1) y (by simpa using hi)
      refine ⟨fun j hj => ?_, h2⟩
      rw [show o + 8 + i * 8 + j = o + (i + 1) * 8 + j by omega]
      exact h1 j hj
/-- As statements are read. -/
theorem So.read {wx : World} {n : Nat} {qs : List Sr} {v : Value} (h : So wx n qs v) (hq : qs = [] → v = .slice none 0 0) : ∃ px cx, v = .slice px (sof qs).len cx ∧ StsV wx (fun g => n ≤ g ∧ g < wx.heap.size) (sof qs) px cx := by
  rcases h.own.2 with ⟨rfl, h0⟩ | ⟨g, cap, cur, rfl, h1, h2, h3, h4, h5, h6⟩
  · have : qs = [] := List.length_eq_zero_iff.1 h0
    subst this
    exact ⟨none, 0, rfl, .inl ⟨rfl, rfl, rfl⟩⟩
  · refine ⟨some ⟨g, 0, none⟩, cap, by rw [sof_len], ?_⟩
    cases qs with
    | nil => have := hq rfl; cases this
    | cons z qs =>
      refine .inr ⟨g, rfl, ⟨h1, (h.own.lt g rfl).2⟩, by rw [sof_len]; simp, by rw [sof_len]; simpa using h3, h4, at_of _ _ fun i y hi => ?_⟩
      have hil : i < (z :: qs).length := (List.getElem?_eq_some_iff.1 hi).1
      refine ⟨fun j hj => ?_, (h.sq y (List.mem_of_getElem? hi)).on (fun g o _ => rfl) (fun b hb => ⟨hb.1, hb.2.1⟩)⟩
      rw [Nat.zero_add, h.own.cellAt (i * 8 + j) (by omega)]
      exact scs_at (z :: qs) i j y hi hj
end Go.Proofs.YtmomdcnlhljhcaaDoor
