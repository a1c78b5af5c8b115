/- The law's program, whatever was drawn. -/
import Derived.Test.YtmomdcnlhljhcaaDoorMw
import Derived.Deep.RegionHeld3
import Derived.Deep.DeepCutAuto
import Derived.Deep.CutBlock
import Derived.Deep.AppendLies
import Derived.Deep.RegionLaw
set_option linter.unusedSimpArgs false
set_option linter.unusedVariables false
namespace Go.Proofs.YtmomdcnlhljhcaaDoor
open Go.RowKit Ieee

def cellD (x : Sml) (i : Nat) : Dc := ⟨0, lett 120 i 9, x.n.tmod 4, (x.n.tdiv 16).tmod 3, .nil⟩
def arrD (x : Sml) : Dc := ⟨1, [118], ((x.ar % 4 : Nat) : Int), 0, .nil⟩
def mutD (i : Nat) : Dc := ⟨2, lett 109 i 9, 0, 0, .nil⟩
def semD (x : Sml) (i : Nat) : Dc := ⟨3, lett 115 i 9, ((x.se / 4 % 3 : Nat) : Int), 0, .nil⟩
def budD (x : Sml) : Dc := ⟨4, [], ((1 + x.bu % 24 : Nat) : Int), 0, .nil⟩
def thrD (x : Sml) (i : Nat) (l : List S5) : Dc := ⟨5, lett 116 i 9, 0, 0, (srun x l.length l 100 3).1⟩
def aThr (x : Sml) : List (List S5) := if x.th = [] then [[]] else x.th
def aP1 (x : Sml) : List Dc := (List.range (1 + x.ce % 3)).map (cellD x)
def aP2 (x : Sml) : List Dc := aP1 x ++ (if 0 < x.ar % 4 then [arrD x] else [])
def aP3 (x : Sml) : List Dc := aP2 x ++ (List.range (x.mu % 3)).map mutD
def aP4 (x : Sml) : List Dc := aP3 x ++ (List.range (x.se % 3)).map (semD x)
def aP5 (x : Sml) : List Dc := aP4 x ++ [budD x]
def thrs (x : Sml) : Nat → List (List S5) → List Dc
  | _, [] => []
  | i, l :: ls => thrD x i l :: thrs x (i + 1) ls
def aProg (x : Sml) : List Dc := aP5 x ++ thrs x 0 (aThr x)
theorem aP1_len (x : Sml) : (aP1 x).length ≤ 3 := by unfold aP1; simp; omega
theorem aP2_len (x : Sml) : (aP2 x).length ≤ 4 := by unfold aP2; have := aP1_len x; rw [List.length_append]; split <;> simp <;> omega
theorem aP3_len (x : Sml) : (aP3 x).length ≤ 6 := by unfold aP3; have := aP2_len x; simp; omega
theorem aP4_len (x : Sml) : (aP4 x).length ≤ 8 := by unfold aP4; have := aP3_len x; simp; omega
theorem aP5_len (x : Sml) : (aP5 x).length ≤ 9 := by unfold aP5; have := aP4_len x; simp; omega
/-- So far these declarations are made. -/
def Pd (w wx : World) (n : Nat) (x : Sml) (p : Option Addr) (c : Nat) (L : List Dc) : Prop := ∃ qs v, Pm w wx n x p c qs v ∧ qs.map Dr.d = L
theorem Pd.keep {w wx w2 : World} {n : Nat} {x : Sml} {p : Option Addr} {c : Nat} {L : List Dc} (h : Pd w wx n x p c L) (hb : Below wx.heap.size wx w2) : Pd w w2 n x p c L := by
  obtain ⟨qs, v, h1, h2⟩ := h
  exact ⟨qs, v, h1.keep hb, h2⟩
theorem Pd.drew {w wx : World} {n : Nat} {x : Sml} {p : Option Addr} {c : Nat} {L : List Dc} (h : Pd w wx n x p c L) : Pd w wx.drew n x p c L := by
  obtain ⟨qs, v, h1, h2⟩ := h
  exact ⟨qs, v, h1.drew, h2⟩
theorem Pd.xC {w wx : World} {n : Nat} {x : Sml} {p : Option Addr} {c : Nat} {L : List Dc} (h : Pd w wx n x p c L) (i : Nat) : wx.cell? ⟨n, i, none⟩ = (#[Value.int .u8 (x.ce : Int), .int .u8 (x.ar : Int), .int .u8 (x.mu : Int), .int .u8 (x.se : Int), .int .u8 (x.bu : Int), .int .i8 x.n, .slice p x.th.length c])[i]? := by
  obtain ⟨qs, v, h1, h2⟩ := h
  exact h1.xC i
theorem addD (w wr : World) (n : Nat) (x : Sml) (p : Option Addr) (c : Nat) (L : List Dc) (h : Pd w wr n x p c L) (hq : L.length ≤ 20) (so : Nat) (nm : List UInt8) (re im : Int) (A B : Nat) (hA : fl false re = A) (hB : fl false im = B) :
    Calls Tryd.prog 24 #[.int .i64 (so : Int), .string ⟨nm.toArray⟩, .complex .f64 A B, .pointer (some ⟨n + 2, 0, none⟩)] wr fun e w' => e = .returned (.tuple #[]) ∧ Pd w w' n x p c (L ++ [⟨so, nm, re, im, .nil⟩]) := by
  obtain ⟨qs, v, h1, h2⟩ := h
  refine (add_any w wr n x p c qs v h1 (by rw [← h2] at hq; simpa using hq) so nm re im A B hA hB).mono ?_
  rintro e w' ⟨h3, v', h4⟩
  exact ⟨h3, _, v', h4, by rw [List.map_append, h2]; rfl⟩
theorem Pm.start (w : World) (n : Nat) (hn : w.heap.size = n) (x : Sml) (p : Option Addr) (c : Nat) :
    Pd w (((w.alloc (xbox x p c)).alloc (.cells #[.slice none 0 0] 37)).alloc (.cells #[.slice none 0 0] 37)) n x p c [] := by
  subst hn
  refine ⟨[], .slice none 0 0, ⟨?_, ?_, ?_, ?_, Do.nil _ _, by simp⟩, rfl⟩
  · exact (((Below.refl _ _).alloc (Nat.le_refl _) _).alloc (by simp <;> omega) _).alloc (by simp <;> omega) _
  · rw [Below.heap_alloc _ _ _ (by simp <;> omega), Below.heap_alloc _ _ _ (by simp <;> omega)]; exact heap_alloc_new _ _
  · rw [Below.heap_alloc _ _ _ (by simp <;> omega)]
    have := heap_alloc_new (w.alloc (xbox x p c)) (.cells #[.slice none 0 0] 37); simpa using this
  · have := heap_alloc_new ((w.alloc (xbox x p c)).alloc (.cells #[.slice none 0 0] 37)) (.cells #[.slice none 0 0] 37); simpa using this
/-- The drawn threads, as a slice. -/
def ThV (w : World) (B : Nat) (th : List (List S5)) (p : Option Addr) : Prop :=
  th ≠ [] → ∃ g o, p = some ⟨g, o, none⟩ ∧ g < B ∧ ∀ i l, th[i]? = some l → ∃ v, w.cell? ⟨g, o + i, none⟩ = some v ∧ Lsv w B l v
theorem ThV.below {w w' : World} {B : Nat} {th : List (List S5)} {p : Option Addr} (h : ThV w B th p) (hb : Below B w w') : ThV w' B th p := by
  intro hne
  obtain ⟨g, o, h1, h2, h3⟩ := h hne
  refine ⟨g, o, h1, h2, fun i l hi => ?_⟩
  obtain ⟨v, h4, h5⟩ := h3 i l hi
  exact ⟨v, (hb.cell (p := ⟨g, o + i, none⟩) h2).trans h4, h5.below hb⟩
def MkP (w : World) (L : List Dc) (e : Ending) (w' : World) : Prop :=
  ∃ g cx, e = .returned (.agg #[.slice (some ⟨g, 0, none⟩) L.length cx]) ∧ w.heap.size ≤ g ∧ g < w'.heap.size ∧ DcsAt w' (fun g => w.heap.size ≤ g ∧ g < w'.heap.size) L g ∧ Below w.heap.size w w'
theorem sv_drew {w2 : World} {S S' : Nat → Prop} {b : Sts} {po : Option Addr} {co : Nat} (h : StsV w2 S b po co) (hS : ∀ g, S g → S' g) : StsV w2.drew S' b po co := StsV.on (w := w2) (w' := w2.drew) (fun _ _ _ => rfl) hS h
theorem Pm.appB {w wx w3 : World} {n : Nat} {x : Sml} {p : Option Addr} {c : Nat} {qs : List Dr} {v : Value} {o : Obj} (h : Pm w wx n x p c qs v) (hg : (wx.alloc o).grownBy w3 v.ownBlock) (u : Value) : Below n wx (w3.setCell ⟨n + 2, 0, none⟩ u) := by
  have hs := h.size
  exact (((Below.refl n wx).alloc (by omega) o).grown hg (by simp; omega) (fun q hq => by have := (h.do_.own.lt q hq).1; omega)).setCell (by show n ≤ n + 2; omega) _
def ThJ (wx : World) (B : Nat) (ths : List (List S5)) (pt : Option Addr) (j : Nat) : Prop :=
  ∃ g o, pt = some ⟨g, o, none⟩ ∧ g < wx.heap.size ∧ (g < B ∨ ths.length = 1) ∧ ∀ i l, j ≤ i → ths[i]? = some l → ∃ v, wx.cell? ⟨g, o + i, none⟩ = some v ∧ Lsv wx B l v
theorem ThJ.next {wx w2 : World} {B n : Nat} {ths : List (List S5)} {pt : Option Addr} {j : Nat} (h : ThJ wx B ths pt j) (hb : Below n wx w2) (hB : B ≤ n) : ThJ w2 B ths pt (j + 1) := by
  obtain ⟨g, o, h1, hlt, h2, h3⟩ := h
  refine ⟨g, o, h1, Nat.lt_of_lt_of_le hlt hb.size, h2, fun i l hi hl => ?_⟩
  rcases h2 with h2 | h2
  · obtain ⟨v, h4, h5⟩ := h3 i l (by omega) hl
    exact ⟨v, (hb.cell (p := ⟨g, o + i, none⟩) (by simp only; omega)).trans h4, h5.below (hb.mono hB)⟩
  · have : i < ths.length := (List.getElem?_eq_some_iff.1 hl).1
    omega
theorem thrs_app (x : Sml) : ∀ (a b : List (List S5)) (i : Nat), thrs x i (a ++ b) = thrs x i a ++ thrs x (i + a.length) b := by
  intro a
  induction a with
  | nil => intro b i; simp [thrs]
  | cons l a ih => intro b i; simp [thrs, ih, Nat.add_assoc, Nat.add_comm 1]
theorem thrs_len (x : Sml) : ∀ (a : List (List S5)) (i : Nat), (thrs x i a).length = a.length := by
  intro a
  induction a with
  | nil => intro i; rfl
  | cons l a ih => intro i; simp [thrs, ih]
theorem thrs_take (x : Sml) (L : List (List S5)) (j : Nat) (l : List S5) (h : L[j]? = some l) : thrs x 0 (L.take (j + 1)) = thrs x 0 (L.take j) ++ [thrD x j l] := by
  have hj : j < L.length := (List.getElem?_eq_some_iff.1 h).1
  rw [List.take_add_one, h, thrs_app]
  simp [thrs, Nat.min_eq_left (Nat.le_of_lt hj)]
theorem MkP.of {w wr : World} {n : Nat} {x : Sml} {p : Option Addr} {c : Nat} {qs : List Dr} {v : Value} {L : List Dc} (hn : w.heap.size = n) (h : Pm w wr n x p c qs v) (hm : qs.map Dr.d = L) (hne : L ≠ []) :
    MkP w L (.returned (.agg #[v])) (wr.setCell ⟨n + 1, 0, none⟩ v) := by
  obtain ⟨g, cx, h1, h2, h3, h4⟩ := h.do_.read (by intro e; rw [e] at hm; exact hne hm.symm)
  have hz : (wr.setCell ⟨n + 1, 0, none⟩ v).heap.size = wr.heap.size := by simp
  rw [hm] at h1 h4
  refine ⟨g, cx, by rw [h1], by omega, by rw [hz]; exact h3, ?_, ?_⟩
  · refine h4.on (S := fun g => n + 3 ≤ g ∧ g < wr.heap.size) (fun b o hb => World.cell?_of_block (a := ⟨b, o, none⟩) (Below.heap_setCell _ _ _ _ (fun e => by have := hb.1; simp only at e; omega))) (fun b hb => ⟨by have := hb.1; omega, by rw [hz]; exact hb.2⟩) ⟨h2, h3⟩
  · rw [hn]; exact h.bel.setCell (by show n ≤ n + 1; omega) _
/-- What Make hands back, with what lies elsewhere and may be written. -/
def MkQ (w : World) (L : List Dc) (e : Ending) (w' : World) : Prop :=
  ∃ g cx, e = .returned (.agg #[.slice (some ⟨g, 0, none⟩) L.length cx]) ∧ w.heap.size ≤ g ∧ g < w'.heap.size ∧ ((∀ i d, L[i]? = some d → ∃ p c, Cd w' g (i * 5) d p c 0 ∧ StsV w' (fun b => w.heap.size ≤ b ∧ b < w'.heap.size ∧ b ≠ g) d.body p c) ∧ ∀ o, w'.frozen? ⟨g, o, none⟩ = false) ∧ Below w.heap.size w w'
theorem MkQ.p {w w' : World} {L : List Dc} {e : Ending} (h : MkQ w L e w') : MkP w L e w' := by
  obtain ⟨g, cx, h1, h2, h3, ⟨h4, _⟩, h5⟩ := h
  refine ⟨g, cx, h1, h2, h3, fun i d hd => ?_, h5⟩
  obtain ⟨p, c, hc, hv⟩ := h4 i d hd
  exact ⟨p, c, 0, by omega, by omega, hc, hv.on (fun _ _ _ => rfl) (fun b hb => ⟨hb.1, hb.2.1⟩)⟩
theorem MkQ.of {w wr : World} {n : Nat} {x : Sml} {p : Option Addr} {c : Nat} {qs : List Dr} {v : Value} {L : List Dc} (hn : w.heap.size = n) (h : Pm w wr n x p c qs v) (hm : qs.map Dr.d = L) (hne : L ≠ []) :
    MkQ w L (.returned (.agg #[v])) (wr.setCell ⟨n + 1, 0, none⟩ v) := by
  obtain ⟨g, cx, h1, h2, h3, h4, h5⟩ := h.do_.readq (by intro e; rw [e] at hm; exact hne hm.symm)
  have hz : (wr.setCell ⟨n + 1, 0, none⟩ v).heap.size = wr.heap.size := by simp
  have hk : ∀ b, n + 3 ≤ b → (wr.setCell ⟨n + 1, 0, none⟩ v).heap[b]? = wr.heap[b]? := fun b hb => Below.heap_setCell _ _ _ _ (fun e => by simp only at e; omega)
  have hS : Same (fun g => n + 3 ≤ g) wr (wr.setCell ⟨n + 1, 0, none⟩ v) := fun b o hb => World.cell?_of_block (a := ⟨b, o, none⟩) (hk b hb)
  rw [hm] at h1 h4
  refine ⟨g, cx, by rw [h1], by omega, by rw [hz]; exact h3, ⟨fun i d hd => ?_, fun o => ?_⟩, ?_⟩
  · obtain ⟨q, e, ⟨k0, k1, k2, k3, k4⟩, hv⟩ := h4 i d hd
    refine ⟨q, e, ⟨(hS g _ h2).trans k0, (hS g _ h2).trans k1, (hS g _ h2).trans k2, (hS g _ h2).trans k3, (hS g _ h2).trans k4⟩, hv.on (fun b o hb => hS b o hb.1) (fun b hb => ⟨by have := hb.1; omega, by rw [hz]; exact hb.2.1, hb.2.2⟩)⟩
  · have := h5 o
    unfold World.frozen? at this ⊢
    simp only at this ⊢
    rw [hk g h2]
    exact this
  · rw [hn]; exact h.bel.setCell (by show n ≤ n + 1; omega) _
theorem flz : fl false 0 = 0 := by decide
theorem tdiv_b (n : Int) (h0 : -128 ≤ n) (h1 : n ≤ 127) : -8 ≤ n.tdiv 16 ∧ n.tdiv 16 ≤ 8 := by
  rcases Int.le_total 0 n with h | h
  · rw [Int.tdiv_eq_ediv_of_nonneg h]; omega
  · have : n.tdiv 16 = -((-n).tdiv 16) := by rw [Int.neg_tdiv]; omega
    rw [this, Int.tdiv_eq_ediv_of_nonneg (by omega)]; omega
theorem tmod_b (n k : Int) (hk : 0 < k) : -k < n.tmod k ∧ n.tmod k < k := by
  rcases Int.le_total 0 n with h | h
  · rw [Int.tmod_eq_emod_of_nonneg h]
    have := Int.emod_nonneg n (show k ≠ 0 by omega)
    have := Int.emod_lt_of_pos n hk
    omega
  · have : n.tmod k = -((-n).tmod k) := by rw [Int.neg_tmod]; omega
    rw [this, Int.tmod_eq_emod_of_nonneg (by omega)]
    have := Int.emod_nonneg (-n) (show k ≠ 0 by omega)
    have := Int.emod_lt_of_pos (-n) hk
    omega
set_option maxRecDepth 100000 in
set_option maxHeartbeats 6400000 in
theorem make_q (x : Sml) (p : Option Addr) (c B : Nat) (hx : Smok x) (hok : ∀ l ∈ x.th, l.length ≤ 20 ∧ ∀ s ∈ l, S5ok s) (hc : x.th.length ≤ c ∧ c ≤ maxLen) (w : World) (hth : ThV w B x.th p) (hB : B ≤ w.heap.size) : Calls Tryd.prog 15 #[smv x p c] w (MkQ w (aProg x)) := by
  have hst := store_cx
  have hmf : ∀ (fn : Fn) (first cap : Array Value) (w : World), (Instr.makeFunc fn first cap).run Tryd.prog w = .ok (.func fn first cap) w := fun _ _ _ _ => rfl
  obtain ⟨n, hn⟩ : ∃ n, w.heap.size = n := ⟨_, rfl⟩
  have HN := Lib.hid hn
  have HOK := Lib.hid hok
  have HX := Lib.hid hx
  have HTH := Lib.hid hth
  obtain ⟨W, hW⟩ : ∃ W, ((w.alloc (.cells #[.int .u8 (x.ce : Int), .int .u8 (x.ar : Int), .int .u8 (x.mu : Int), .int .u8 (x.se : Int), .int .u8 (x.bu : Int), .int .i8 x.n, .slice p x.th.length c] 33)).alloc (.cells #[.slice none 0 0] 37)).alloc (.cells #[.slice none 0 0] 37) = W := ⟨_, rfl⟩
  have HP0 : Hid (Pd w W n x p c []) := Lib.hid (by rw [← hW]; exact Pm.start w n hn x p c)
  have HBn : B ≤ n := by omega
  have hxce := hx.ce
  have hxar := hx.ar
  have hxmu := hx.mu
  have hxse := hx.se
  have hxbu := hx.bu
  obtain ⟨hxn0, hxn1⟩ := hx.n
  have hxth := hx.th
  clear hok hx hth hB
  obtain ⟨mc, hmc⟩ : ∃ mc, 1 + x.ce % 3 = mc := ⟨_, rfl⟩
  have HMA := Lib.hid (fun w => many_any x.ce hxce w)
  rw [hmc] at HMA
  have HMC := Lib.hid hmc
  have hmc4 : mc ≤ 3 := by omega
  clear hmc
  have x0 : W.cell? ⟨n, 0, none⟩ = some (.int .u8 (x.ce : Int)) := HP0.out.xC 0
  unfold smv
  go_enter Tryd.func15, Tryd.ntmps15
  go_wp2_with (go_at_call 25; refine (HMA.out _).mono ?_; rintro e w' ⟨rfl, rfl⟩)
  clear hW hn x0
  obtain ⟨r4, hr4⟩ : ∃ r4, x.n.tmod 4 = r4 := ⟨_, rfl⟩
  obtain ⟨i3, hi3⟩ : ∃ i3, (x.n.tdiv 16).tmod 3 = i3 := ⟨_, rfl⟩
  have hi3w : IntKind.i8.wrap (x.n.tdiv 16) = x.n.tdiv 16 := wr_i8 (by have := (tdiv_b x.n hxn0 hxn1).1; omega) (by have := (tdiv_b x.n hxn0 hxn1).2; omega)
  have hfr := floatOfInt_fl r4
  have hfi := floatOfInt_fl i3
  obtain ⟨FR, hFR⟩ : ∃ FR, fl false r4 = FR := ⟨_, rfl⟩
  obtain ⟨FI, hFI⟩ : ∃ FI, fl false i3 = FI := ⟨_, rfl⟩
  rw [hFR] at hfr
  rw [hFI] at hfi
  have HFR := Lib.hid hFR
  have HFI := Lib.hid hFI
  have HR4 := Lib.hid hr4
  have HI3 := Lib.hid hi3
  clear hFR hFI
  have HCL : Hid (∀ wr j, j ≤ 9 → Pd w wr n x p c ((List.range j).map (cellD x)) → Calls Tryd.prog 24 #[.int .i64 0, .string ⟨(lett 120 j 9).toArray⟩, .complex .f64 FR FI, .pointer (some ⟨n + 2, 0, none⟩)] wr fun e w' => e = .returned (.tuple #[]) ∧ Pd w w' n x p c ((List.range (j + 1)).map (cellD x))) := Lib.hid (fun wr j hj h => (addD w wr n x p c _ h (by simp; omega) 0 (lett 120 j 9) r4 i3 FR FI HFR.out HFI.out).mono fun e w' ⟨h1, h2⟩ => ⟨h1, by rw [List.range_succ, List.map_append, List.map_singleton, show cellD x j = ⟨0, lett 120 j 9, r4, i3, .nil⟩ by unfold cellD; rw [HR4.out, HI3.out]]; exact h2⟩)
  go_loopw [17] (fun i wr => ∃ j : Nat, j ≤ mc ∧ i = .int .u8 (j : Int) ∧ Pd w wr n x p c ((List.range j).map (cellD x))) (fun i _ => mc - (intOf i).toNat)
  case atStart => exact ⟨0, Nat.zero_le _, rfl, HP0.out⟩
  case round =>
    clear HP0
    obtain ⟨j, hj, rfl, hP⟩ := hrel
    have HP := Lib.hid hP
    clear hP
    by_cases hlt : j < mc
    · have HLE := Lib.hid (fun w => letter_any 120 j 9 (by omega) (by omega) (by omega) w)
      have HCJ := Lib.hid (fun wr => HCL.out wr j (by omega))
      have x5 : wr.cell? ⟨n, 5, none⟩ = some (.int .i8 x.n) := HP.out.xC 5
      go_wp2
      go_region_held3 (fun w' => w'.cell? ⟨n, 5, none⟩ = some (.int .i8 x.n)) (first | exact x5 | assumption | (simp only [World.drew_cell]; exact x5))
        (first
          | (go_at_call 26; refine (HLE.out _).mono ?_; rintro e w' ⟨rfl, rfl⟩)
          | (go_at_call 24; refine (HCJ.out _ HP.out.drew).mono ?_; rintro e w2 ⟨rfl, hP2⟩; have x5' : w2.cell? ⟨n, 5, none⟩ = some (.int .i8 x.n) := hP2.xC 5))
      all_goals (go_wp2; go_roundw)
      all_goals (first | exact ⟨j + 1, by omega, by go_num, hP2⟩ | (simp [intOf]; omega))
    · obtain rfl : j = mc := by omega
      have hL1 : (List.range j).map (cellD x) = aP1 x := by unfold aP1; rw [HMC.out]
      rw [hL1] at HP
      clear hL1
      have x1 : wr.cell? ⟨n, 1, none⟩ = some (.int .u8 (x.ar : Int)) := HP.out.xC 1
      obtain ⟨a4, ha4⟩ : ∃ a4, x.ar % 4 = a4 := ⟨_, rfl⟩
      have ha4i : (x.ar : Int) % 4 = (a4 : Int) := by omega
      have HA4 := Lib.hid ha4
      obtain ⟨FA, hFA⟩ : ∃ FA, fl false (a4 : Int) = FA := ⟨_, rfl⟩
      have hfa := floatOfInt_fl (a4 : Int)
      rw [hFA] at hfa
      have HAR : Hid (∀ wr, Pd w wr n x p c (aP1 x) → Calls Tryd.prog 24 #[.int .i64 1, .string ⟨#[118]⟩, .complex .f64 FA 0, .pointer (some ⟨n + 2, 0, none⟩)] wr fun e w' => e = .returned (.tuple #[]) ∧ Pd w w' n x p c (aP1 x ++ [arrD x])) := Lib.hid (fun wr h => (addD w wr n x p c _ h (by have := aP1_len x; omega) 1 [118] (a4 : Int) 0 FA 0 hFA flz).mono fun e w' ⟨h1, h2⟩ => ⟨h1, by unfold arrD; rw [HA4.out]; exact h2⟩)
      clear ha4 hFA HCL HFR HFI HR4 HI3 hfr hfi hi3w hr4 hi3
      go_upto_if 38 with fail
      go_cut [39] (fun _ wx => Pd w wx n x p c (aP2 x))
      case first =>
        by_cases h0 : 0 < a4
        · have h0i : (0 : Int) < (a4 : Int) := by omega
          go_wp2_with (go_at_call 24; refine (HAR.out _ HP.out).mono ?_; rintro e w2 ⟨rfl, hP2⟩)
          go_meet
          case rel => unfold aP2; rw [if_pos (by rw [HA4.out]; exact h0)]; exact hP2
        · have h0i : ¬ (0 : Int) < (a4 : Int) := by omega
          go_wp2
          go_meet
          case rel => unfold aP2; rw [if_neg (by rw [HA4.out]; exact h0), List.append_nil]; exact HP.out
      case rest =>
        have HP2 := Lib.hid hcut
        clear hcut HP HAR x1
        obtain ⟨mu3, hmu3⟩ : ∃ mu3, x.mu % 3 = mu3 := ⟨_, rfl⟩
        have hmu3i : (x.mu : Int) % 3 = (mu3 : Int) := by omega
        have hmu3b : mu3 ≤ 2 := by omega
        have HMU := Lib.hid hmu3
        clear hmu3
        have x2 : wc.cell? ⟨n, 2, none⟩ = some (.int .u8 (x.mu : Int)) := HP2.out.xC 2
        have HCM : Hid (∀ wr j, j ≤ 9 → Pd w wr n x p c (aP2 x ++ (List.range j).map mutD) → Calls Tryd.prog 24 #[.int .i64 2, .string ⟨(lett 109 j 9).toArray⟩, .complex .f64 0 0, .pointer (some ⟨n + 2, 0, none⟩)] wr fun e w' => e = .returned (.tuple #[]) ∧ Pd w w' n x p c (aP2 x ++ (List.range (j + 1)).map mutD)) := Lib.hid (fun wr j hj h => (addD w wr n x p c _ h (by have := aP2_len x; simp; omega) 2 (lett 109 j 9) 0 0 0 0 flz flz).mono fun e w' ⟨h1, h2⟩ => ⟨h1, by rw [List.range_succ, List.map_append, List.map_singleton, ← List.append_assoc]; exact h2⟩)
        go_wp2
        clear x2
        try rw [hmu3i]
        go_loopw [49] (fun i wr => ∃ j : Nat, j ≤ mu3 ∧ i = .int .u8 (j : Int) ∧ Pd w wr n x p c (aP2 x ++ (List.range j).map mutD)) (fun i _ => mu3 - (intOf i).toNat)
        case atStart => exact ⟨0, Nat.zero_le _, rfl, by simpa using HP2.out⟩
        case round =>
          clear HP2
          obtain ⟨k, hk, rfl, hP⟩ := hrel
          have HP := Lib.hid hP
          clear hP
          by_cases hlt2 : k < mu3
          · have HLE := Lib.hid (fun w => letter_any 109 k 9 (by omega) (by omega) (by omega) w)
            have HCJ := Lib.hid (fun wr => HCM.out wr k (by omega))
            go_wp2_with (first
              | (go_at_call 26; refine (HLE.out _).mono ?_; rintro e w' ⟨rfl, rfl⟩)
              | (go_at_call 24; refine (HCJ.out _ HP.out).mono ?_; rintro e w2 ⟨rfl, hP2⟩))
            go_roundw
            case rel => exact ⟨k + 1, by omega, by go_num, hP2⟩
            case measure => simp [intOf]; omega
          · obtain rfl : k = mu3 := by omega
            have hL1 : aP2 x ++ (List.range k).map mutD = aP3 x := by unfold aP3; rw [HMU.out]
            rw [hL1] at HP
            clear hL1 HCM
            have x3 : wr.cell? ⟨n, 3, none⟩ = some (.int .u8 (x.se : Int)) := HP.out.xC 3
            obtain ⟨se3, hse3⟩ : ∃ se3, x.se % 3 = se3 := ⟨_, rfl⟩
            have hse3i : (x.se : Int) % 3 = (se3 : Int) := by omega
            have hse3b : se3 ≤ 2 := by omega
            have HSE := Lib.hid hse3
            obtain ⟨s4, hs4⟩ : ∃ s4, x.se / 4 % 3 = s4 := ⟨_, rfl⟩
            have hs4i : ((x.se : Int) / 4) % 3 = (s4 : Int) := by omega
            have hs4t : (IntKind.u8.wrap ((x.se : Int) / 4)).tmod 3 = (s4 : Int) := by rw [wr_u8 (by omega) (by omega), Int.tmod_eq_emod_of_nonneg (by omega)]; omega
            have HS4 := Lib.hid hs4
            obtain ⟨FZ, hFZ⟩ : ∃ FZ, fl false (s4 : Int) = FZ := ⟨_, rfl⟩
            have hfs := floatOfInt_fl (s4 : Int)
            rw [hFZ] at hfs
            clear hse3 hs4
            have HCS : Hid (∀ wr j, j ≤ 9 → Pd w wr n x p c (aP3 x ++ (List.range j).map (semD x)) → Calls Tryd.prog 24 #[.int .i64 3, .string ⟨(lett 115 j 9).toArray⟩, .complex .f64 FZ 0, .pointer (some ⟨n + 2, 0, none⟩)] wr fun e w' => e = .returned (.tuple #[]) ∧ Pd w w' n x p c (aP3 x ++ (List.range (j + 1)).map (semD x))) := Lib.hid (fun wr j hj h => (addD w wr n x p c _ h (by have := aP3_len x; simp; omega) 3 (lett 115 j 9) (s4 : Int) 0 FZ 0 hFZ flz).mono fun e w' ⟨h1, h2⟩ => ⟨h1, by rw [List.range_succ, List.map_append, List.map_singleton, ← List.append_assoc, show semD x j = ⟨3, lett 115 j 9, (s4 : Int), 0, .nil⟩ by unfold semD; rw [HS4.out]]; exact h2⟩)
            clear hFZ
            go_wp2
            clear x3
            try rw [hse3i]
            go_loopw [60] (fun i wr => ∃ j : Nat, j ≤ se3 ∧ i = .int .u8 (j : Int) ∧ Pd w wr n x p c (aP3 x ++ (List.range j).map (semD x))) (fun i _ => se3 - (intOf i).toNat)
            case atStart => exact ⟨0, Nat.zero_le _, rfl, by simpa using HP.out⟩
            case round =>
              clear HP
              obtain ⟨q, hq, rfl, hP⟩ := hrel
              have HP := Lib.hid hP
              clear hP
              by_cases hlt3 : q < se3
              · have HLE := Lib.hid (fun w => letter_any 115 q 9 (by omega) (by omega) (by omega) w)
                have HCJ := Lib.hid (fun wr => HCS.out wr q (by omega))
                have x3 : wr.cell? ⟨n, 3, none⟩ = some (.int .u8 (x.se : Int)) := HP.out.xC 3
                go_wp2
                go_region_held3 (fun w' => w'.cell? ⟨n, 3, none⟩ = some (.int .u8 (x.se : Int))) (first | exact x3 | assumption)
                  (first
                    | (go_at_call 26; refine (HLE.out _).mono ?_; rintro e w' ⟨rfl, rfl⟩)
                    | (go_at_call 24; refine (HCJ.out _ HP.out.drew).mono ?_; rintro e w2 ⟨rfl, hP2⟩; have x3' : w2.cell? ⟨n, 3, none⟩ = some (.int .u8 (x.se : Int)) := hP2.xC 3))
                all_goals (go_wp2; go_roundw)
                all_goals (first | exact ⟨q + 1, by omega, by go_num, hP2⟩ | (simp [intOf]; omega))
              · obtain rfl : q = se3 := by omega
                clear hlt hlt2 hlt3
                have hL1 : aP3 x ++ (List.range q).map (semD x) = aP4 x := by unfold aP4; rw [HSE.out]
                rw [hL1] at HP
                clear hL1 HCS
                have x4 : wr.cell? ⟨n, 4, none⟩ = some (.int .u8 (x.bu : Int)) := HP.out.xC 4
                obtain ⟨b4, hb4⟩ : ∃ b4, 1 + x.bu % 24 = b4 := ⟨_, rfl⟩
                have hb4i : 1 + (x.bu : Int) % 24 = (b4 : Int) := by omega
                have HB4 := Lib.hid hb4
                obtain ⟨FB, hFB⟩ : ∃ FB, fl false (b4 : Int) = FB := ⟨_, rfl⟩
                have hfb := floatOfInt_fl (b4 : Int)
                rw [hFB] at hfb
                have HBU : Hid (∀ wr, Pd w wr n x p c (aP4 x) → Calls Tryd.prog 24 #[.int .i64 4, .string ⟨#[]⟩, .complex .f64 FB 0, .pointer (some ⟨n + 2, 0, none⟩)] wr fun e w' => e = .returned (.tuple #[]) ∧ Pd w w' n x p c (aP5 x)) := Lib.hid (fun wr h => (addD w wr n x p c _ h (by have := aP4_len x; omega) 4 [] (b4 : Int) 0 FB 0 hFB flz).mono fun e w' ⟨h1, h2⟩ => ⟨h1, by unfold aP5 budD; rw [HB4.out]; exact h2⟩)
                clear hb4 hFB
                go_upto_if 86 with (go_at_call 24; refine (HBU.out _ HP.out).mono ?_; rintro e w5 ⟨rfl, hP5⟩; have x6 : w5.cell? ⟨n, 6, none⟩ = some (.slice p x.th.length c) := hP5.xC 6)
                have HP5 := Lib.hid hP5
                clear hP5 HP HBU x4
                obtain ⟨T, hT⟩ : ∃ T, (aThr x).length = T := ⟨_, rfl⟩
                have HT := Lib.hid hT
                go_cut [8] (fun u8 wx => (∃ pt ct, u8 = .slice pt T ct ∧ T ≤ ct ∧ ct ≤ maxLen ∧ ThJ wx B (aThr x) pt 0) ∧ Pd w wx n x p c (aP5 x))
                case first =>
                  by_cases h0 : x.th = []
                  · have h0i : ((x.th.length : Nat) : Int) = 0 := by rw [h0]; rfl
                    have h0l : x.th.length = 0 := by rw [h0]; rfl
                    have hT1 : T = 1 := by rw [← hT]; unfold aThr; rw [if_pos h0]; rfl
                    go_wp2
                    go_meet
                    case rel =>
                      refine ⟨⟨_, 1, by rw [hT1], by omega, by unfold maxLen; omega, w5.heap.size, 0, rfl, by simp, .inr (by rw [hT, hT1]), fun i l hi hl => ?_⟩, HP5.out.keep (below_alloc _ _)⟩
                      unfold aThr at hl
                      rw [if_pos h0] at hl
                      cases i with
                      | zero =>
                        injection hl with hl
                        subst hl
                        refine ⟨.slice none 0 0, ?_, none, 0, rfl, by simp, by omega, fun h => absurd rfl h⟩
                        rw [cell_of_row _ _ (0 + 0) _ 53 (0, 0) (heap_alloc_new w5 _)]; rfl
                      | succ i => cases hl
                  · have h0l : 0 < x.th.length := List.length_pos_iff.2 h0
                    have h0i : ¬ ((x.th.length : Nat) : Int) = 0 := by omega
                    have h0j : (((x.th.length : Nat) : Int) == 0) = false := by simp; omega
                    have hT1 : T = x.th.length := by rw [← hT]; unfold aThr; rw [if_neg h0]
                    go_wp2
                    go_meet
                    case rel =>
                      have hthr : aThr x = x.th := by unfold aThr; rw [if_neg h0]
                      rw [hthr]
                      have hb5 : Below n w w5 := by obtain ⟨_, _, hh, _⟩ := HP5.out; exact hh.bel
                      obtain ⟨g, o, h1, h2, h3⟩ := (HTH.out.below (hb5.mono HBn)) h0
                      have hsz : n + 3 ≤ w5.heap.size := by obtain ⟨_, _, hh, _⟩ := HP5.out; exact hh.size
                      exact ⟨⟨p, c, by rw [hT1], by rw [hT1]; exact hc.1, hc.2, g, o, h1, by omega, .inl h2, fun i l _ hl => h3 i l hl⟩, HP5.out⟩
                case rest =>
                  obtain ⟨⟨pt, ct, rfl, hT0, hT1, hJ⟩, hP5⟩ := hcut
                  have HP6 := Lib.hid hP5
                  have HJ := Lib.hid hJ
                  have hT6 : T ≤ 6 := by rw [← hT]; unfold aThr; split; simp; exact hxth
                  obtain ⟨i0, hi, hz0, hz1, hz2⟩ := info_parts d_info
                  have HI := Lib.hid hi
                  have HZ0 := Lib.hid hz0
                  have HZ1 := Lib.hid hz1
                  have HZ2 := Lib.hid hz2
                  clear hP5 hJ HP5 hi hz0 hz1 hz2 hT
                  go_wp2
                  go_loopw [90] (fun i wr => ∃ j : Nat, j ≤ T ∧ i = .int .i64 (j : Int) ∧ ThJ wr B (aThr x) pt j ∧ Pd w wr n x p c (aP5 x ++ thrs x 0 ((aThr x).take j))) (fun i _ => T - (intOf i).toNat)
                  case atStart => exact ⟨0, Nat.zero_le _, rfl, HJ.out, by simpa [thrs] using HP6.out⟩
                  case round =>
                    clear HP6 HJ
                    obtain ⟨j4, hj4, rfl, hJ, hP⟩ := hrel
                    obtain ⟨qs, v0, hPm, hmap⟩ := hP
                    have HPM := Lib.hid hPm
                    have HMAP := Lib.hid hmap
                    have HJ := Lib.hid hJ
                    clear hmap hJ
                    by_cases hlt4 : j4 < T
                    · obtain ⟨l, hl⟩ : ∃ l, (aThr x)[j4]? = some l := ⟨(aThr x)[j4]'(by rw [HT.out]; exact hlt4), List.getElem?_eq_getElem _⟩
                      obtain ⟨g, o, rfl, hgw, hg2, hcell⟩ := HJ.out
                      obtain ⟨vl, hvc, hlsv⟩ := hcell j4 l (Nat.le_refl _) hl
                      have hlok : l.length ≤ 20 ∧ ∀ s ∈ l, S5ok s := by
                        have hm := List.mem_of_getElem? hl
                        unfold aThr at hm
                        split at hm
                        · rw [List.mem_singleton] at hm; subst hm; exact ⟨by simp, by simp⟩
                        · exact HOK.out l hm
                      have hsz := hPm.size
                      have HCT := Lib.hid (stmts_any x p c B HX.out 3 (by omega) l.length l 100 vl wr (Nat.le_refl _) hlok.2 hlok.1 (by omega) hlsv (by omega))
                      unfold smv StR at HCT
                      have HTK := Lib.hid (thrs_take x (aThr x) j4 l hl)
                      have x0 : wr.cell? ⟨n, 0, none⟩ = some (.int .u8 (x.ce : Int)) := hPm.xC 0
                      have x1 : wr.cell? ⟨n, 1, none⟩ = some (.int .u8 (x.ar : Int)) := hPm.xC 1
                      have x2 : wr.cell? ⟨n, 2, none⟩ = some (.int .u8 (x.mu : Int)) := hPm.xC 2
                      have x3 : wr.cell? ⟨n, 3, none⟩ = some (.int .u8 (x.se : Int)) := hPm.xC 3
                      have x4 : wr.cell? ⟨n, 4, none⟩ = some (.int .u8 (x.bu : Int)) := hPm.xC 4
                      have x5 : wr.cell? ⟨n, 5, none⟩ = some (.int .i8 x.n) := hPm.xC 5
                      have x6 : wr.cell? ⟨n, 6, none⟩ = some (.slice p x.th.length c) := hPm.xC 6
                      have hltc : (j4 : Int) < (ct : Int) := by omega
                      have HQL : Hid (qs.length ≤ 20) := Lib.hid (by have h1 := congrArg List.length HMAP.out; have := aP5_len x; rw [List.length_map, List.length_append, thrs_len] at h1; simp at h1; omega)
                      clear hcell hlsv hl hlok hPm
                      go_wp2_with (go_at_call 27; refine Hid.out ?_)
                      refine Lib.hid ?_
                      refine HCT.out.mono ?_
                      rintro e w2 ⟨po, co, vr, rfl, hsv, hlr, hb2⟩
                      have HB2 := Lib.hid hb2
                      have HSV := Lib.hid hsv
                      have hPm2 := HPM.out.keep hb2
                      have HPM2 := Lib.hid hPm2
                      have c0 : w2.drew.cell? ⟨n + 1 + 1, 0, none⟩ = some v0 := hPm2.drew.pC
                      have c1 : w2.drew.frozen? ⟨n + 1 + 1, 0, none⟩ = false := hPm2.drew.pF
                      have hz2n : n + 1 + 1 < w2.drew.heap.size := by have := hPm2.drew.size; omega
                      have hz2m : n + 3 ≤ w2.heap.size := hPm2.size
                      have hvb : some (n + 1 + 1) ≠ v0.ownBlock := by intro e; have := (hPm2.do_.own.lt _ e.symm).1; omega
                      obtain ⟨qn, hqn⟩ : ∃ qn, qs.length = qn := ⟨_, rfl⟩
                      have HQN := Lib.hid hqn
                      have hq20 : qn ≤ 20 := by rw [← hqn]; exact HQL.out
                      have hown2 : w2.drew.ownsRow (n + 3) 43 5 v0 qn (drs qs) := by rw [← hqn]; exact hPm2.drew.do_.own
                      have HLE := Lib.hid (fun w => letter_any 116 j4 9 (by omega) (by omega) (by omega) w)
                      have hcs2 : (⟨⟨5, lett 116 j4 9, 0, 0, (srun x l.length l 100 3).1⟩, po, co⟩ : Dr).cs = [.int .i64 5, .string ⟨(lett 116 j4 9).toArray⟩, .complex .f64 0 0, .slice po (srun x l.length l 100 3).1.len co, .int .i64 0] := by unfold Dr.cs; simp only [flz]; rfl
                      have HCS2 := Lib.hid hcs2
                      have hj8 : IntKind.u8.wrap (j4 : Int) = (j4 : Int) := wr_u8 (by omega) (by omega)
                      clear hb2 hsv hPm2 hqn hcs2 hlr x0 x1 x2 x3 x4 x5 x6 hvc
                      go_wp2
                      refine wp_region_lapse (by kernel_rfl) (fun w' => w'.cell? ⟨n + 1 + 1, 0, none⟩ = some v0) 10 ?_
                      have hS0 : w2.drew.cell? ⟨n + 1 + 1, 0, none⟩ = some v0 := c0
                      refine wpAnyF_take (i := 0) (v := ?v28x0) rfl (by kernel_rfl) (by kernel_rfl) (by kernel_rfl) (by kernel_rfl) (fun _ _ _ h => h) (Or.inl ⟨by rfl, ?h28x0⟩) hS0 ?_
                      case h28x0 => (intro w hSw; (try dsimp only at hSw); go_simp; try with_reducible rfl)
                      simp only [Act.put, List.setIfInBounds_toArray, List.set_cons_zero, List.set_cons_succ]
                      refine wpAnyF_take (i := 1) (v := ?v28x1) rfl (by kernel_rfl) (by kernel_rfl) (by kernel_rfl) (by kernel_rfl) (fun _ _ _ h => h) (Or.inl ⟨by rfl, ?h28x1⟩) hS0 ?_
                      case h28x1 => (intro w hSw; (try dsimp only at hSw); go_simp; try with_reducible rfl)
                      simp only [Act.put, List.setIfInBounds_toArray, List.set_cons_zero, List.set_cons_succ]
                      refine wpAnyF_take (i := 2) (v := ?v28x2) rfl (by kernel_rfl) (by kernel_rfl) (by kernel_rfl) (by kernel_rfl) (fun _ _ _ h => h) (Or.inl ⟨by rfl, ?h28x2⟩) hS0 ?_
                      case h28x2 => (intro w hSw; (try dsimp only at hSw); go_simp; try with_reducible rfl)
                      simp only [Act.put, List.setIfInBounds_toArray, List.set_cons_zero, List.set_cons_succ]
                      refine wpAnyF_take (i := 3) (v := ?v28x3) rfl (by kernel_rfl) (by kernel_rfl) (by kernel_rfl) (by kernel_rfl) (fun _ _ _ h => h) (Or.inl ⟨by rfl, ?h28x3⟩) hS0 ?_
                      case h28x3 => (intro w hSw; (try dsimp only at hSw); go_simp; try with_reducible rfl)
                      simp only [Act.put, List.setIfInBounds_toArray, List.set_cons_zero, List.set_cons_succ]
                      refine wpAnyF_take (i := 5) (v := ?v28x5) rfl (by kernel_rfl) (by kernel_rfl) (by kernel_rfl) (by kernel_rfl) (fun _ _ _ h => h) (Or.inl ⟨by rfl, ?h28x5⟩) hS0 ?_
                      case h28x5 => (intro w hSw; (try dsimp only at hSw); go_simp; try with_reducible rfl)
                      simp only [Act.put, List.setIfInBounds_toArray, List.set_cons_zero, List.set_cons_succ]
                      clear hS0
                      refine wpAnyF_one (i := 4) (by kernel_rfl) rfl (fun K hK => ?_)
                      go_simp
                      go_at_call 26
                      refine (HLE.out _).mono ?_
                      rintro e w' ⟨rfl, rfl⟩
                      refine hK.out _ _ (fun hne => c0) ?_
                      clear hK K
                      try simp only [Act.put, List.setIfInBounds_toArray, List.set_cons_zero, List.set_cons_succ]
                      refine wpAnyF_one (i := 6) (by kernel_rfl) rfl (fun K hK => ?_)
                      go_simp
                      refine hK.out _ _ (fun hne => c0) ?_
                      clear hK K
                      try simp only [Act.put, List.setIfInBounds_toArray, List.set_cons_zero, List.set_cons_succ]
                      refine wpAnyF_one (i := 7) (by kernel_rfl) rfl (fun K hK => ?_)
                      go_simp
                      refine hK.out _ _ (fun hne => al_cell c0 _) ?_
                      clear hK K
                      try simp only [Act.put, List.setIfInBounds_toArray, List.set_cons_zero, List.set_cons_succ]
                      refine wpAnyF_one (i := 8) (by kernel_rfl) rfl (fun K hK => ?_)
                      refine step_append_lies _ (by rfl) (.tmp 102) (.tmp 108) 35 (by rfl) (n + 3) 43 i0 _ 5 72 Tryd.underlying35 HI.out HZ0.out HZ1.out HZ2.out rfl (by decide) v0 qn (drs qs) (by rfl) (hown2.alloc _) ⟨w2.heap.size, 0, none⟩ 1 1 [.int .i64 5, .string ⟨(lett 116 j4 9).toArray⟩, .complex .f64 0 0, .slice po (srun x l.length l 100 3).1.len co, .int .i64 0] (by rfl) (by rfl) (new_cells w2.drew [.int .i64 5, .string ⟨(lett 116 j4 9).toArray⟩, .complex .f64 0 0, .slice po (srun x l.length l 100 3).1.len co, .int .i64 0] 43) (by rw [← HCS2.out]; exact done5 _) (by decide) (by unfold maxLen; omega) (by omega) (by simp; omega) (w2.heap.size + 1) (by simp) ?_
                      intro g3 cap3 w3 hown3 hgrow3 hat3 hlt3
                      have d0 : w3.cell? ⟨n + 1 + 1, 0, none⟩ = some v0 := far_cell (Below.refl _ w2.drew) hgrow3 c0 hvb
                      have d1 : w3.frozen? ⟨n + 1 + 1, 0, none⟩ = false := far_frozen (Below.refl _ w2.drew) hgrow3 hz2n c1 hvb
                      refine hK.out _ _ (fun hne => d0) ?_
                      clear hK K
                      try simp only [Act.put, List.setIfInBounds_toArray, List.set_cons_zero, List.set_cons_succ]
                      refine wpAnyF_one (i := 9) (by kernel_rfl) rfl (fun K hK => ?_)
                      go_simp
                      refine hK.out _ _ (fun hne => d0) ?_
                      clear hK K
                      try simp only [Act.put, List.setIfInBounds_toArray, List.set_cons_zero, List.set_cons_succ]
                      refine wpAnyF_one (i := 10) (by kernel_rfl) rfl (fun K hK => ?_)
                      go_simp
                      refine hK.out _ _ (fun hne => absurd rfl hne) ?_
                      clear hK K
                      try simp only [Act.put, List.setIfInBounds_toArray, List.set_cons_zero, List.set_cons_succ]
                      refine wpAnyF_done (by kernel_rfl) ?_ _
                      have hsv3 : StsV w2.drew (fun g => n + 3 ≤ g ∧ g < w2.drew.heap.size ∧ v0.ownBlock ≠ some g) (srun x l.length l 100 3).1 po co := sv_drew HSV.out (fun b hb => ⟨Nat.le_trans hsz hb.1, hb.2, fun e => Nat.lt_irrefl _ (Nat.lt_of_lt_of_le (HPM.out.do_.own.lt _ e).2 hb.1)⟩)
                      have hfin := HPM2.out.drew.app (z := (⟨⟨5, lett 116 j4 9, 0, 0, (srun x l.length l 100 3).1⟩, po, co⟩ : Dr)) (Below.refl _ w2.drew) hsv3 hgrow3 hat3 (cap := cap3) (by rw [HQN.out, HCS2.out]; exact hown3)
                      rw [HQN.out] at hfin
                      have HFIN := Lib.hid hfin
                      clear hfin
                      go_wp2
                      go_roundw
                      case rel =>
                        refine ⟨j4 + 1, by omega, by go_num, ?_, _, _, HFIN.out, by rw [List.map_append, HMAP.out, HTK.out, List.append_assoc]; rfl⟩
                        have hbj : Below n w2.drew _ := HPM2.out.drew.appB hgrow3 (.slice (some ⟨g3, 0, none⟩) (qn + 1) cap3)
                        have hbk : Below n wr w2.drew := ⟨HB2.out.os, HB2.out.tape, HB2.out.output, HB2.out.size, fun i hi => HB2.out.block i (by omega)⟩
                        exact HJ.out.next (hbk.trans hbj) HBn
                      case measure => simp [intOf]; omega
                    · obtain rfl : j4 = T := by omega
                      have c0 : wr.cell? ⟨n + 1 + 1, 0, none⟩ = some v0 := HPM.out.pC
                      have c1 : wr.cell? ⟨n + 1, 0, none⟩ = some (.slice none 0 0) := HPM.out.rC
                      have c2 : wr.frozen? ⟨n + 1, 0, none⟩ = false := HPM.out.rF
                      have hsz := HPM.out.size
                      have hz1 : n + 1 < wr.heap.size := by omega
                      clear hPm
                      obtain ⟨g9, cx9, hv0, _⟩ := HPM.out.do_.read (by intro e; have h1 := congrArg List.length HMAP.out; rw [e] at h1; unfold aP5 at h1; simp at h1)
                      rw [List.length_map] at hv0
                      subst hv0
                      go_wp2
                      have hall : aP5 x ++ thrs x 0 ((aThr x).take j4) = aProg x := by rw [List.take_of_length_le (by rw [HT.out]; exact Nat.le_refl _)]; rfl
                      refine bodyPost_ret (v := .agg #[.slice (some ⟨g9, 0, none⟩) qs.length cx9]) (by simp [results, Tryd.results15, go_sem, c1, hz1]) rfl ?_
                      exact MkQ.of HN.out HPM.out (by rw [HMAP.out, hall]) (by unfold aProg aP5; simp)
theorem make_any (x : Sml) (p : Option Addr) (c B : Nat) (hx : Smok x) (hok : ∀ l ∈ x.th, l.length ≤ 20 ∧ ∀ s ∈ l, S5ok s) (hc : x.th.length ≤ c ∧ c ≤ maxLen) (w : World) (hth : ThV w B x.th p) (hB : B ≤ w.heap.size) : Calls Tryd.prog 15 #[smv x p c] w (MkP w (aProg x)) :=
  (make_q x p c B hx hok hc w hth hB).mono fun _ _ h => h.p
end Go.Proofs.YtmomdcnlhljhcaaDoor
