/- tree.Expr.Text: an expression's text, by a stack of pieces. -/
import Derived.Test.YtmomdcnlhljhcaaDoorBd
set_option linter.unusedSimpArgs false
set_option linter.unusedVariables false
namespace Go.Proofs.YtmomdcnlhljhcaaDoor
open Go.RowKit Ieee

theorem op1_cases (k : Nat) : (op1 k = [110, 101, 103] ∧ sg1 k = 45) ∨ (op1 k = [99, 111, 110, 106] ∧ sg1 k = 126) ∨ (op1 k = [110, 111, 116] ∧ sg1 k = 33) ∨ (op1 k = [110, 111, 114, 109] ∧ sg1 k = 35) := by
  match k with
  | 0 => exact .inl ⟨rfl, rfl⟩
  | 1 => exact .inr (.inl ⟨rfl, rfl⟩)
  | 2 => exact .inr (.inr (.inl ⟨rfl, rfl⟩))
  | n + 3 => exact .inr (.inr (.inr ⟨rfl, rfl⟩))
theorem op2_cases (k : Nat) : op2 k = [43] ∨ op2 k = [45] ∨ op2 k = [42] ∨ op2 k = [61, 61] ∨ op2 k = [33, 61] ∨ op2 k = [60] := by
  match k with
  | 0 => exact .inl rfl
  | 1 => exact .inr (.inl rfl)
  | 2 => exact .inr (.inr (.inl rfl))
  | 3 => exact .inr (.inr (.inr (.inl rfl)))
  | 4 => exact .inr (.inr (.inr (.inr (.inl rfl))))
  | n + 5 => exact .inr (.inr (.inr (.inr (.inr rfl))))
theorem sign_one (k : Nat) (w : World) : Calls Tryd.prog 36 #[.string ⟨(op1 k).toArray⟩] w fun e w' => e = .returned (.string ⟨#[sg1 k]⟩) ∧ w = w' := by
  rcases op1_cases k with ⟨h1, h2⟩ | ⟨h1, h2⟩ | ⟨h1, h2⟩ | ⟨h1, h2⟩
  all_goals
    rw [h1, h2]
    clear h1 h2
    go_enter Tryd.func36, Tryd.ntmps36
    go_wp2
    go_ret
    exact ⟨rfl, rfl⟩
theorem sign_two (k : Nat) (w : World) : Calls Tryd.prog 36 #[.string ⟨(op2 k).toArray⟩] w fun e w' => e = .returned (.string ⟨#[]⟩) ∧ w = w' := by
  rcases op2_cases k with h1 | h1 | h1 | h1 | h1 | h1
  all_goals
    rw [h1]
    clear h1
    go_enter Tryd.func36, Tryd.ntmps36
    go_wp2
    go_ret
    exact ⟨rfl, rfl⟩

/-- A small number's text is of digits alone. -/
theorem small_itoa : ∀ m : Fin 17, Lib.containsAny (Lib.itoa (m.val : Int)) [43, 45] = false ∧ Lib.containsAny (Lib.itoa (m.val : Int) ++ [105]) [43, 45] = false ∧ (∀ b ∈ Lib.itoa (m.val : Int), b.toNat < 128) ∧ 1 ≤ (Lib.itoa (m.val : Int)).length ∧ (Lib.itoa (m.val : Int)).length ≤ 2 := by decide +kernel
theorem numT_facts {re im : Nat} (h : (re = 0 ∨ im = 0) ∧ re ≤ 16 ∧ im ≤ 16) : txt (re : Int) (im : Int) = numT re im ∧ Lib.containsAny (numT re im) [43, 45] = false ∧ (∀ b ∈ numT re im, b.toNat < 128) ∧ 1 ≤ (numT re im).length ∧ (numT re im).length ≤ 3 := by
  obtain ⟨h1, h2, h3⟩ := h
  unfold numT txt
  by_cases hi : im = 0
  · subst hi
    obtain ⟨a, b, c, d, e⟩ := small_itoa ⟨re, by omega⟩
    rw [if_pos rfl, if_pos (show ((0 : Nat) : Int) = 0 from rfl)]
    exact ⟨rfl, a, c, d, Nat.le_trans e (by omega)⟩
  · obtain ⟨a, b, c, d, e⟩ := small_itoa ⟨im, by omega⟩
    obtain rfl : re = 0 := by omega
    have hi' : ¬ ((im : Int) = 0) := by omega
    rw [if_neg hi, if_neg hi', if_pos (show ((0 : Nat) : Int) = 0 from rfl)]
    refine ⟨rfl, b, ?_, by simp, by simp; omega⟩
    intro x hx
    rcases List.mem_append.1 hx with hx | hx
    · exact c x hx
    · simp at hx; subst hx; decide

theorem numberText_any {re im : Nat} (h : (re = 0 ∨ im = 0) ∧ re ≤ 16 ∧ im ≤ 16) (w : World) (hl : Lb w) :
    Calls Tryd.prog 35 #[.complex .f64 (fl false (re : Int)) (fl false (im : Int))] w fun e w' => e = .returned (.string ⟨(numT re im).toArray⟩) ∧ Below w.heap.size w w' := by
  obtain ⟨h1, h2, h3, h4, h5⟩ := numT_facts h
  have ht := text_any false false (r := (re : Int)) (i := (im : Int)) (by unfold Sm; omega) (by unfold Sm; omega) (by simp [ok2, okI]; omega) w hl.tb
  rw [h1] at ht
  generalize fl false (re : Int) = F at *
  generalize fl false (im : Int) = G at *
  generalize numT re im = T at *
  have HT := Lib.hid ht
  have hca := fun w1 => Tryd.strings_ContainsAny_laid ⟨T.toArray⟩ ⟨#[43, 45]⟩ w1 (by show T.length < _; omega) (by decide) (fun j b hj => h3 b (List.mem_of_getElem? hj)) (by intro j b hj; match j, hj with | 0, hj => (simp at hj; subst hj; decide) | 1, hj => (simp at hj; subst hj; decide))
  have HCA := Lib.hid hca
  have HN : Hid (Lib.containsAny T [43, 45] = false) := Lib.hid h2
  clear ht hca h1 h2 h3
  go_enter Tryd.func35, Tryd.ntmps35
  go_wp2_with fail
  refine HT.out.mono ?_
  rintro e w1 ⟨rfl, hb⟩
  have HB := Lib.hid hb
  clear hb
  go_wp2_with fail
  refine (HCA.out w1).mono ?_
  rintro e w2 ⟨he, hb2⟩
  have he' : e = .returned (.bool false) := by rw [he]; exact congrArg (fun b => Ending.returned (.bool b)) HN.out
  subst he'
  have HB2 := Lib.hid hb2
  clear hb2 he
  go_wp2
  go_ret
  exact ⟨rfl, below_trans HB.out HB2.out⟩

theorem op2_len (k : Nat) : 1 ≤ (op2 k).length ∧ (op2 k).length ≤ 2 := by rcases op2_cases k with h | h | h | h | h | h <;> rw [h] <;> decide
theorem op1_len (k : Nat) : (op1 k).length ≤ 4 := by rcases op1_cases k with ⟨h, _⟩ | ⟨h, _⟩ | ⟨h, _⟩ | ⟨h, _⟩ <;> rw [h] <;> decide
theorem ext_pos : ∀ {e : Ex}, Wx e → 1 ≤ (ext e).length
  | .num re im, h => (numT_facts h).2.2.2.1
  | .reg r, h => by simp [ext]
  | .one k a, h => by simp [ext]
  | .two k a b, h => by simp [ext]

/-- A piece, its cells, its text. -/
inductive Pc where
  | ex (g o : Nat) (e : Ex)
  | tx (s : List UInt8)
def pcv : Pc → List Value
  | .ex g o _ => pcE g o
  | .tx s => pcT s
def pct : Pc → List UInt8
  | .ex _ _ e => ext e
  | .tx s => s
def pcvs (R : List Pc) : List Value := R.reverse.flatMap pcv
def pcts (R : List Pc) : List UInt8 := R.flatMap pct
theorem pcv_len (p : Pc) : (pcv p).length = 2 := by cases p <;> rfl
theorem pcvs_len (R : List Pc) : (pcvs R).length = R.length * 2 := by
  induction R with
  | nil => rfl
  | cons p R ih => unfold pcvs at *; simp [ih, pcv_len]; omega
theorem pcvs_cons (p : Pc) (R : List Pc) : pcvs (p :: R) = pcvs R ++ pcv p := by unfold pcvs; simp
/-- A piece that lies in memory. -/
def OkP (w : World) (N : Nat) : Pc → Prop
  | .ex g o e => g < N + 1 ∧ Wx e ∧ ∃ p, Cx w g o e p ∧ Px w (fun g => g < N) e p
  | .tx s => 1 ≤ s.length
theorem okp_pos {w : World} {N : Nat} {p : Pc} (h : OkP w N p) : 1 ≤ (pct p).length := by
  cases p with
  | ex g o e => exact ext_pos h.2.1
  | tx s => exact h
theorem pcts_len {w : World} {N : Nat} {R : List Pc} (h : ∀ p ∈ R, OkP w N p) : R.length ≤ (pcts R).length := by
  induction R with
  | nil => exact Nat.le_refl _
  | cons p R ih =>
    have h1 := okp_pos (h p (by simp))
    have h2 := ih (fun q hq => h q (by simp [hq]))
    simp only [pcts, List.flatMap_cons, List.length_append, List.length_cons] at *
    omega
/-- How much the builder in block b holds. -/
def bufLen (b : Nat) (w : World) : Nat := match w.cell? ⟨b, 1, none⟩ with | some (.slice _ n _) => n | _ => 0
theorem Bu.bufLen {B b : Nat} {l : List UInt8} {w : World} (h : Bu B b l w) : bufLen b w = l.length := by
  have key : ∀ p, Lib.BuilderAtF 57 5 B b p (Lib.byteCells l) w → YtmomdcnlhljhcaaDoor.bufLen b w = l.length := by
    rintro p ⟨_, v, h2, h3, _⟩
    have hc : w.cell? ⟨b, 1, none⟩ = some v := by rw [cell_of_row w b 1 _ 57 (0, 0) h2]; rfl
    unfold YtmomdcnlhljhcaaDoor.bufLen
    rw [hc]
    rcases h3.2 with ⟨rfl, h⟩ | ⟨g, cap, cur, fz, rfl, _⟩
    · rw [Lib.byteCells_length] at h; exact h.symm
    · exact Lib.byteCells_length l
  exact h.elim (key _) (key _)
/-- What holds each time at the loop's head. -/
structure Tin (T : List UInt8) (N : Nat) (w1 wr : World) (v : Value) (out : List UInt8) (R : List Pc) : Prop where
  bel : Below (N + 1) w1 wr
  bu : Bu (N + 1) (N + 1) out wr
  own : wr.ownsRow (N + 2) 74 2 v R.length (pcvs R)
  res : out ++ pcts R = T
  ok : ∀ p ∈ R, OkP w1 N p
  size : N + 2 ≤ wr.heap.size
  lb : Lb wr
  low : 7 ≤ N

/-- An expression's box. -/
def ebox (e : Ex) (p : Option Addr) : Obj := .cells #[.string (opB e), .complex .f64 (nxB e) (nyB e), .string (nmB e), .slice p (npB e) (npB e)] 48
theorem cx_box (e : Ex) (p : Option Addr) (w : World) : Cx (w.alloc (ebox e p)) w.heap.size 0 e p := by
  unfold ebox
  refine ⟨?_, ?_, ?_, ?_⟩ <;> simp [go_sem]
theorem tin_start (e : Ex) (p : Option Addr) (w : World) (hl : Lb w) (hw : Wx e) (hp : Px w (fun g => g < w.heap.size) e p) (hlen : (ext e).length ≤ 1000000) :
    Tin (ext e) w.heap.size (w.alloc (ebox e p)) (((w.alloc (ebox e p)).alloc (.cells #[.pointer none, .slice none 0 0] 57)).alloc (.cells #[.pointer (some ⟨w.heap.size, 0, none⟩), .string ⟨#[]⟩] 74)) (.slice (some ⟨w.heap.size + 1 + 1, 0, none⟩) 1 1) [] [.ex w.heap.size 0 e] := by
  have hz : (w.alloc (ebox e p)).heap.size = w.heap.size + 1 := by simp
  have hb1 : Below (w.heap.size + 1) (w.alloc (ebox e p)) (((w.alloc (ebox e p)).alloc (.cells #[.pointer none, .slice none 0 0] 57)).alloc (.cells #[.pointer (some ⟨w.heap.size, 0, none⟩), .string ⟨#[]⟩] 74)) :=
    ((Below.refl _ _).alloc (by simp) _).alloc (by simp) _
  have h7 := hl.size
  refine ⟨hb1, ?_, ?_, ?_, ?_, ?_, ?_, h7⟩
  · have := (bu_new (w.alloc (ebox e p))).alloc (.cells #[.pointer (some ⟨w.heap.size, 0, none⟩), .string ⟨#[]⟩] 74)
    rw [hz] at this
    exact this
  · have h := World.ownsRow_lit (base := w.heap.size + 2) (size := 2) (e := 74) ((w.alloc (ebox e p)).alloc (.cells #[.pointer none, .slice none 0 0] 57)) #[.pointer (some ⟨w.heap.size, 0, none⟩), .string ⟨#[]⟩] 1 (by simp) (by unfold maxLen; omega) rfl
    have hz2 : ((w.alloc (ebox e p)).alloc (.cells #[.pointer none, .slice none 0 0] 57)).heap.size = w.heap.size + 1 + 1 := by simp
    rw [hz2] at h
    exact h
  · simp [pcts, pct]
  · intro q hq
    simp only [List.mem_cons, List.not_mem_nil, or_false] at hq
    subst hq
    exact ⟨by omega, hw, p, cx_box e p w, hp.on (Same.below (below_alloc w _) (fun g h => h)) (fun g h => h)⟩
  · simp
  · exact (hl.new (below_alloc w _)).on hb1 (by omega)

/-- Behind a piece's write: it is gone, its text is written. -/
theorem tin_write {T : List UInt8} {N gv m cap : Nat} {W1 wr w' w2 : World} {out t : List UInt8} {pc : Pc} {R : List Pc} (h : Tin T N W1 wr (.slice (some ⟨gv, 0, none⟩) (m + 1) cap) out (pc :: R)) (hm : R.length = m)
    (hb : Below wr.heap.size wr w') (hw : Wro (N + 1) (N + 1) (out ++ t) w' w2) : Below (N + 1) W1 w2 ∧ Bu (N + 1) (N + 1) (out ++ t) w2 ∧ w2.ownsRow (N + 2) 74 2 (.slice (some ⟨gv, 0, none⟩) m cap) m (pcvs R) ∧ N + 2 ≤ w2.heap.size ∧ Lb w2 := by
  have hs := h.size
  have hB : Below (N + 1) W1 w2 := (h.bel.trans (hb.mono (by omega))).trans hw.bel
  refine ⟨hB, hw.bu, ?_, Nat.le_trans hs (Nat.le_trans hb.size hw.bel.size), ?_⟩
  · have ho := h.own
    rw [pcvs_cons, List.length_cons, hm] at ho
    exact own_others (own_below (own_pop ho (by rw [pcvs_len, hm])) hb) hw.oth (by decide) (by omega)
  · have := h.lb.size
    have h7 : 7 ≤ N + 1 ∨ N + 1 < 7 := by omega
    rcases h7 with h7 | h7
    · exact (h.lb.new hb).on hw.bel h7
    · exact absurd h7 (by have := h.low; omega)
theorem tin_done {T : List UInt8} {N gv m cap : Nat} {W1 wr w' w2 : World} {out t : List UInt8} {pc : Pc} {R : List Pc} (h : Tin T N W1 wr (.slice (some ⟨gv, 0, none⟩) (m + 1) cap) out (pc :: R)) (hm : R.length = m)
    (hb : Below wr.heap.size wr w') (hw : Wro (N + 1) (N + 1) (out ++ t) w' w2) (ht : pct pc = t) : Tin T N W1 w2 (.slice (some ⟨gv, 0, none⟩) m cap) (out ++ t) R := by
  obtain ⟨a, b, c, d, e⟩ := tin_write h hm hb hw
  refine ⟨a, b, by rw [hm]; exact c, ?_, fun q hq => h.ok q (by simp [hq]), d, e, h.low⟩
  rw [← h.res, ← ht]
  simp [pcts]
theorem tin_push {T : List UInt8} {N gv m cap n3 : Nat} {W1 wr w' w2 w3 : World} {v3 : Value} {out t : List UInt8} {pc : Pc} {R news : List Pc} {xs : List Value} (h : Tin T N W1 wr (.slice (some ⟨gv, 0, none⟩) (m + 1) cap) out (pc :: R)) (hm : R.length = m)
    (hb : Below wr.heap.size wr w') (hw : Wro (N + 1) (N + 1) (out ++ t) w' w2) (hr : Rw (N + 2) 74 2 w2 w3 v3 n3 xs) (hn : n3 = (news ++ R).length) (hx : xs = pcvs (news ++ R)) (ht : t ++ pcts news = pct pc) (hok : ∀ p ∈ news, OkP W1 N p) :
    Tin T N W1 w3 v3 (out ++ t) (news ++ R) := by
  obtain ⟨a, b, c, d, e⟩ := tin_write h hm hb hw
  refine ⟨a.trans (hr.bel.mono (by omega)), b.others hr.kept (by decide) (by decide), by rw [← hn, ← hx]; exact hr.own, ?_, ?_, Nat.le_trans d hr.bel.size, e.on hr.bel (by have := h.low; omega), h.low⟩
  · rw [← h.res]
    have : pcts (news ++ R) = pcts news ++ pcts R := by simp [pcts]
    rw [this, List.append_assoc, ← List.append_assoc t, ht]
    simp [pcts]
  · intro q hq
    rcases List.mem_append.1 hq with hq | hq
    · exact hok q hq
    · exact h.ok q (by simp [hq])

set_option maxRecDepth 100000 in
set_option maxHeartbeats 3200000 in
theorem etext_any (e : Ex) (p : Option Addr) (w : World) (hl : Lb w) (hw : Wx e) (hp : Px w (fun g => g < w.heap.size) e p) (hlen : (ext e).length ≤ 1000000) :
    Calls Tryd.prog 21 #[exv e p] w fun en w' => en = .returned (.string ⟨(ext e).toArray⟩) ∧ Below w.heap.size w w' := by
  have hst := store_cx
  have HT0 := Lib.hid (tin_start e p w hl hw hp hlen)
  have HLEN := Lib.hid hlen
  obtain ⟨i0, hi, hz0, hz1, hz2⟩ := info_parts pc_info
  have HI := Lib.hid hi
  have HZ0 := Lib.hid hz0
  have HZ1 := Lib.hid hz1
  have HZ2 := Lib.hid hz2
  obtain ⟨N, hN⟩ : ∃ N, w.heap.size = N := ⟨_, rfl⟩
  rw [hN] at HT0 ⊢
  have HN := Lib.hid hN
  obtain ⟨W1, hW1⟩ : ∃ W1, w.alloc (ebox e p) = W1 := ⟨_, rfl⟩
  rw [hW1] at HT0
  have HW1 := Lib.hid hW1
  have HBW : Hid (Below N w W1) := Lib.hid (by rw [← hN, ← hW1]; exact below_alloc w _)
  clear hi hz0 hz1 hz2 hl hp hlen hw hW1
  unfold exv
  go_enter Tryd.func21, Tryd.ntmps21
  go_wp2
  go_loopw [4] (fun v wr => ∃ out R, Tin (ext e) N W1 wr v out R) (fun _ wr => (ext e).length - bufLen (N + 1) wr)
  case atStart => exact ⟨_, _, by rw [← HW1.out] at HT0 ⊢; exact HT0.out⟩
  case round =>
    obtain ⟨out, R, hT⟩ := hrel
    have HT := Lib.hid hT
    clear hT hN
    cases R with
    | nil =>
      have hv : ∃ a c, u4 = .slice a 0 c := by
        rcases HT.out.own.2 with ⟨h, _⟩ | ⟨g, cap, _, h, _⟩
        · exact ⟨_, _, h⟩
        · exact ⟨_, _, h⟩
      obtain ⟨a, c, rfl⟩ := hv
      go_wp2_with fail
      refine (string_any (N + 1) (N + 1) out wr HT.out.bu (by have := HT.out.size; omega)).mono ?_
      rintro en w2 ⟨rfl, hw2⟩
      have HW2 := Lib.hid hw2
      clear hw2
      go_wp2
      go_ret
      have hout : out = ext e := by have := HT.out.res; simpa [pcts] using this
      exact ⟨by rw [hout]; rfl, HBW.out.trans ((HT.out.bel.trans HW2.out.bel).mono (by omega))⟩
    | cons pc R =>
      obtain ⟨gv, cap, rfl, _, _⟩ := HT.out.own.form (by simp)
      have hk := HT.out.own.cellAt
      rw [pcvs_cons] at hk
      have hln := pcvs_len R
      have hres := HT.out.res
      have hrl := pcts_len HT.out.ok
      have hpp := okp_pos (HT.out.ok pc (by simp))
      have hex := HLEN.out
      have hcap : R.length ≤ cap := by
        rcases HT.out.own.2 with ⟨h, _⟩ | ⟨_, _, _, h, _, _, h4, _⟩
        · cases h
        · injection h with _ _ e3; subst e3; simp at h4; omega
      have hlenR : (pc :: R).length = R.length + 1 := rfl
      have HBL : Hid (bufLen (N + 1) wr = out.length) := Lib.hid HT.out.bu.bufLen
      rw [hlenR] at hk ⊢
      obtain ⟨m, hm⟩ : ∃ m, R.length = m := ⟨_, rfl⟩
      rw [hm] at hk hln hcap ⊢
      have hrl2 : out.length + (pct pc).length + (pcts R).length = (ext e).length := by
        rw [← hres]; simp [pcts]; omega
      have hm1 : m ≤ 1000000 := by rw [← hres] at hex; simp at hex; simp at hrl; omega
      have HRES := Lib.hid hres
      have HT2 : Hid (Tin (ext e) N W1 wr (.slice (some ⟨gv, 0, none⟩) (m + 1) cap) out (pc :: R)) := Lib.hid (by have := HT.out; rw [hlenR, hm] at this; exact this)
      clear hres hrl
      cases pc with
      | tx s =>
        have k0 : wr.cell? ⟨gv, m * 2, none⟩ = some (.pointer none) := by
          rw [hk (m * 2) (by omega), List.getElem?_append_right (by omega), hln]; simp [pcv, pcT]
        have k1 : wr.cell? ⟨gv, m * 2 + 1, none⟩ = some (.string ⟨s.toArray⟩) := by
          rw [hk (m * 2 + 1) (by omega), List.getElem?_append_right (by omega), hln]; simp [pcv, pcT]
        have hpl : out.length + s.length + (pcts R).length = (ext e).length := hrl2
        have HPL := Lib.hid hpl
        have HM := Lib.hid hm
        have hpp' : 1 ≤ s.length := hpp
        clear hk hln hlenR hpl hrl2 hm hpp hex
        go_wp2_with fail
        refine (write_list (N + 1) (N + 1) out s _ (HT.out.bu.alloc _) (by have := HPL.out; have := HLEN.out; omega) (by have := HT.out.size; simp; omega)).mono ?_
        rintro en w2 ⟨rfl, hw2⟩
        have HW2 := Lib.hid hw2
        clear hw2
        go_wp2
        go_roundw
        case rel => exact ⟨_, _, tin_done HT2.out HM.out (below_alloc _ _) HW2.out rfl⟩
        case measure => rw [HBL.out, HW2.out.bu.bufLen, List.length_append]; have := HPL.out; omega
      | ex ge oe x =>
        have k0 : wr.cell? ⟨gv, m * 2, none⟩ = some (.pointer (some ⟨ge, oe, none⟩)) := by
          rw [hk (m * 2) (by omega), List.getElem?_append_right (by omega), hln]; simp [pcv, pcE]
        have k1 : wr.cell? ⟨gv, m * 2 + 1, none⟩ = some (.string ⟨#[]⟩) := by
          rw [hk (m * 2 + 1) (by omega), List.getElem?_append_right (by omega), hln]; simp [pcv, pcE]
        obtain ⟨hgN, hwx, q, hcx, hpx⟩ := HT.out.ok (.ex ge oe x) (by simp)
        have hsz := HT.out.size
        have hge : ge < wr.heap.size := by omega
        have hsame : Same (fun g => g < N + 1) W1 wr := Same.below HT.out.bel (fun g h => h)
        obtain ⟨c0, c1, c2, c3⟩ := hcx.on hsame hgN
        have HPL := Lib.hid hrl2
        have HM := Lib.hid hm
        have HWX := Lib.hid hwx
        have HPX := Lib.hid hpx
        have HCX := Lib.hid hcx
        clear hk hln hlenR hrl2 hm hpp hex hwx hpx hcx hsame
        cases x with
        | num re im =>
          simp only [opB, nxB, nyB, nmB, npB] at c0 c1 c2 c3
          clear c2 c3
          go_wp2_with fail
          refine (numberText_any HWX.out _ (HT.out.lb.new (below_alloc _ _))).mono ?_
          rintro en w2 ⟨rfl, hw2⟩
          have HW2 := Lib.hid hw2
          clear hw2
          go_wp2_with fail
          refine (write_list (N + 1) (N + 1) out (numT re im) _ ((HT.out.bu.alloc _).below HW2.out) (by have h1 := HPL.out; have h2 := HLEN.out; simp only [pct, ext] at h1; omega) (by have := HW2.out.size; simp at this; omega)).mono ?_
          rintro en w3 ⟨rfl, hw3⟩
          have HW3 := Lib.hid hw3
          clear hw3
          go_wp2
          go_roundw
          case rel => exact ⟨_, _, tin_done HT2.out HM.out (below_new HW2.out) HW3.out rfl⟩
          case measure => rw [HBL.out, HW3.out.bu.bufLen, List.length_append]; have h1 := HPL.out; have h2 := (numT_facts HWX.out).2.2.2.1; simp only [pct, ext] at h1; omega
        | reg r =>
          simp only [opB, nxB, nyB, nmB, npB] at c0 c1 c2 c3
          clear c1 c3
          go_wp2_with fail
          refine (write_list (N + 1) (N + 1) out [r] _ (HT.out.bu.alloc _) (by have h1 := HPL.out; have h2 := HLEN.out; simp only [pct, ext] at h1; omega) (by simp; omega)).mono ?_
          rintro en w3 ⟨rfl, hw3⟩
          have HW3 := Lib.hid hw3
          clear hw3
          go_wp2
          go_roundw
          case rel => exact ⟨_, _, tin_done HT2.out HM.out (below_alloc _ _) HW3.out rfl⟩
          case measure => rw [HBL.out, HW3.out.bu.bufLen, List.length_append]; have h1 := HPL.out; simp only [pct, ext, List.length_singleton] at h1 ⊢; omega
        | one k a =>
          simp only [opB, nxB, nyB, nmB, npB] at c0 c1 c2 c3
          obtain ⟨g, q', rfl, hgS, hca, hpa⟩ := HPX.out
          have HCA := Lib.hid hca
          have HPA := Lib.hid hpa
          have HC0 := Lib.hid c0
          have HC3 := Lib.hid c3
          have hcat := cat_run [40] [sg1 k] (by simp) (by simp)
          simp only [List.cons_append, List.nil_append] at hcat
          have hs := sign_one k
          have hne1 : (⟨(op1 k).toArray⟩ : ByteArray).toList.isEmpty = false := by rcases op1_cases k with ⟨h, _⟩ | ⟨h, _⟩ | ⟨h, _⟩ | ⟨h, _⟩ <;> rw [h] <;> simp [go_sem]
          have hne2 : ((⟨(op1 k).toArray⟩ : ByteArray).toList == [114, 101, 103]) = false := by rcases op1_cases k with ⟨h, _⟩ | ⟨h, _⟩ | ⟨h, _⟩ | ⟨h, _⟩ <;> rw [h] <;> simp [go_sem]
          obtain ⟨O, hO⟩ : ∃ O, (⟨(op1 k).toArray⟩ : ByteArray) = O := ⟨_, rfl⟩
          rw [hO] at c0 hne1 hne2 hs
          have HS := Lib.hid hs
          clear hO hs
          clear c1 c2 hca hpa
          go_wp2_with fail
          refine (HS.out _).mono ?_
          rintro en w2 ⟨rfl, rfl⟩
          go_wp2_with fail
          refine (write_list (N + 1) (N + 1) out [40, sg1 k] _ (HT.out.bu.alloc _) (by have h1 := HPL.out; have h2 := HLEN.out; simp [pct, ext] at h1 ⊢; omega) (by simp; omega)).mono ?_
          rintro en w3 ⟨rfl, hw3⟩
          have HW3 := Lib.hid hw3
          have hnext : w3.heap[wr.heap.size]? = some (.cells #[.pointer (some ⟨ge, oe, none⟩), .string ⟨#[]⟩] 74 (0, 0)) := hw3.block (heap_alloc_new _ _) (by omega) (by decide)
          have n0 : w3.cell? ⟨wr.heap.size, 0, none⟩ = some (.pointer (some ⟨ge, oe, none⟩)) := by rw [cell_of_row w3 _ 0 _ 74 (0, 0) hnext]; rfl
          clear hw3 hnext
          go_wp2_with fail
          obtain ⟨t1, t2, t3, t4, t5⟩ := tin_write HT2.out HM.out (below_alloc _ _) HW3.out
          have hsame : Same (fun g => g < N + 1) W1 w3 := Same.below t1 (fun g h => h)
          obtain ⟨d0, d1, d2, d3⟩ := HCX.out.on hsame hgN
          refine (push_one (N + 2) m _ (pcvs R) w3 t3 (by omega) ge oe g (op1 k) (by have := op1_len k; omega) d0 d3 (by omega) t4).mono ?_
          rintro en w4 ⟨v4, rfl, hR4, hB4⟩
          have HR4 := Lib.hid hR4
          clear hR4 t1 t2 t3 t4 t5 hsame d0 d1 d2 d3 hB4
          go_wp2
          go_roundw
          case rel =>
            refine ⟨_, _, tin_push (news := [.ex g 0 a, .tx [41]]) HT2.out HM.out (below_alloc _ _) HW3.out HR4.out ?_ ?_ ?_ ?_⟩
            · have := HM.out; simp [pcn]; omega
            · simp [pcvs, pps, pcv, List.append_assoc]
            · simp [pcts, pct, ext]
            · intro p hp
              simp only [List.mem_cons, List.not_mem_nil, or_false] at hp
              rcases hp with rfl | rfl
              · exact ⟨by omega, HWX.out.2, q', HCA.out, HPA.out⟩
              · exact Nat.le_refl 1
          case measure =>
            have hb4 : Bu (N + 1) (N + 1) (out ++ [40, sg1 k]) w4 := HW3.out.bu.others HR4.out.kept (by decide) (by decide)
            rw [HBL.out, hb4.bufLen, List.length_append]; have h1 := HPL.out; simp [pct, ext] at h1 ⊢; omega
        | two k a b =>
          simp only [opB, nxB, nyB, nmB, npB] at c0 c1 c2 c3
          obtain ⟨g, q', r', rfl, hgS, hca, hcb, hpa, hpb⟩ := HPX.out
          have HCA := Lib.hid hca
          have HPA := Lib.hid hpa
          have HCB := Lib.hid hcb
          have HPB := Lib.hid hpb
          have hcat := cat_run [40] [] (by simp) (by simp)
          simp only [List.cons_append, List.nil_append] at hcat
          have hs := sign_two k
          have hne1 : (⟨(op2 k).toArray⟩ : ByteArray).toList.isEmpty = false := by rcases op2_cases k with h | h | h | h | h | h <;> rw [h] <;> simp [go_sem]
          have hne2 : ((⟨(op2 k).toArray⟩ : ByteArray).toList == [114, 101, 103]) = false := by rcases op2_cases k with h | h | h | h | h | h <;> rw [h] <;> simp [go_sem]
          obtain ⟨O, hO⟩ : ∃ O, (⟨(op2 k).toArray⟩ : ByteArray) = O := ⟨_, rfl⟩
          rw [hO] at c0 hne1 hne2 hs
          have HS := Lib.hid hs
          clear hO hs
          clear c1 c2 hca hpa hcb hpb
          go_wp2_with fail
          refine (HS.out _).mono ?_
          rintro en w2 ⟨rfl, rfl⟩
          go_wp2_with fail
          refine (write_list (N + 1) (N + 1) out [40] _ (HT.out.bu.alloc _) (by have h1 := HPL.out; have h2 := HLEN.out; simp [pct, ext] at h1 ⊢; omega) (by simp; omega)).mono ?_
          rintro en w3 ⟨rfl, hw3⟩
          have HW3 := Lib.hid hw3
          have hnext : w3.heap[wr.heap.size]? = some (.cells #[.pointer (some ⟨ge, oe, none⟩), .string ⟨#[]⟩] 74 (0, 0)) := hw3.block (heap_alloc_new _ _) (by omega) (by decide)
          have n0 : w3.cell? ⟨wr.heap.size, 0, none⟩ = some (.pointer (some ⟨ge, oe, none⟩)) := by rw [cell_of_row w3 _ 0 _ 74 (0, 0) hnext]; rfl
          clear hw3 hnext
          go_wp2_with fail
          obtain ⟨t1, t2, t3, t4, t5⟩ := tin_write HT2.out HM.out (below_alloc _ _) HW3.out
          have hsame : Same (fun g => g < N + 1) W1 w3 := Same.below t1 (fun g h => h)
          obtain ⟨d0, d1, d2, d3⟩ := HCX.out.on hsame hgN
          refine (push_two (N + 2) m _ (pcvs R) w3 t3 (by omega) ge oe g (op2 k) (by have := op2_len k; omega) d0 d3 (by omega) t4).mono ?_
          rintro en w4 ⟨v4, rfl, hR4, hB4⟩
          have HR4 := Lib.hid hR4
          clear hR4 t1 t2 t3 t4 t5 hsame d0 d1 d2 d3 hB4
          go_wp2
          go_roundw
          case rel =>
            refine ⟨_, _, tin_push (news := [.ex g 0 a, .tx ([32] ++ op2 k ++ [32]), .ex g 4 b, .tx [41]]) HT2.out HM.out (below_alloc _ _) HW3.out HR4.out ?_ ?_ ?_ ?_⟩
            · have := HM.out; simp [pcn]; omega
            · simp [pcvs, pps, pcv, List.append_assoc]
            · simp [pcts, pct, ext]
            · intro p hp
              simp only [List.mem_cons, List.not_mem_nil, or_false] at hp
              rcases hp with rfl | rfl | rfl | rfl
              · exact ⟨by omega, HWX.out.2.1, q', HCA.out, HPA.out⟩
              · show 1 ≤ ([32] ++ op2 k ++ [32] : List UInt8).length; simp
              · exact ⟨by omega, HWX.out.2.2, r', HCB.out, HPB.out⟩
              · exact Nat.le_refl 1
          case measure =>
            have hb4 : Bu (N + 1) (N + 1) (out ++ [40]) w4 := HW3.out.bu.others HR4.out.kept (by decide) (by decide)
            rw [HBL.out, hb4.bufLen, List.length_append]; have h1 := HPL.out; simp [pct, ext] at h1 ⊢; omega
end Go.Proofs.YtmomdcnlhljhcaaDoor
