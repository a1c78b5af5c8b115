/- TreeSames, walked: whatever two programs are drawn, the law says true. -/
import Derived.Test.YtmomdcnlhljhcaaDoorAq
import Derived.Test.YtmomdcnlhljhcaaDoorAw
import Derived.Test.YtmomdcnlhljhcaaDoorRt
import Derived.Test.YtmomdcnlhljhcaaDoorSd
import Derived.Test.YtmomdcnlhljhcaaDoorIj
import Derived.Test.YtmomdcnlhljhcaaDoorHl
import Derived.Deep.RegionHeld3
import Derived.Deep.DeepCutAuto
import Derived.Deep.CutBlock
set_option linter.unusedSimpArgs false
set_option linter.unusedVariables false
namespace Go.Proofs.YtmomdcnlhljhcaaDoor
open Go.RowKit Ieee

def X7 (n : Nat) (x : Sml) (p : Option Addr) (c : Nat) (w' : World) : Prop := w'.cell? ⟨n, 0, none⟩ = some (.int .u8 (x.ce : Int)) ∧ w'.cell? ⟨n, 1, none⟩ = some (.int .u8 (x.ar : Int)) ∧ w'.cell? ⟨n, 2, none⟩ = some (.int .u8 (x.mu : Int)) ∧ w'.cell? ⟨n, 3, none⟩ = some (.int .u8 (x.se : Int)) ∧ w'.cell? ⟨n, 4, none⟩ = some (.int .u8 (x.bu : Int)) ∧ w'.cell? ⟨n, 5, none⟩ = some (.int .i8 x.n) ∧ w'.cell? ⟨n, 6, none⟩ = some (.slice p x.th.length c)
theorem X7.of {W W' : World} {n : Nat} {x : Sml} {p : Option Addr} {c : Nat} (h : W.heap[n]? = some (xbox x p c)) (hb : Below (n + 1) W W') : X7 n x p c W' := by
  have h' : W'.heap[n]? = some (xbox x p c) := (hb.block n (by omega)).trans h
  have k : ∀ i, W'.cell? ⟨n, i, none⟩ = (#[Value.int .u8 (x.ce : Int), .int .u8 (x.ar : Int), .int .u8 (x.mu : Int), .int .u8 (x.se : Int), .int .u8 (x.bu : Int), .int .i8 x.n, .slice p x.th.length c])[i]? := fun i => by rw [cell_of_row W' _ i _ 33 (0, 0) h']
  exact ⟨k 0, k 1, k 2, k 3, k 4, k 5, k 6⟩
/-- What Light says. -/
def LiR (x : Sml) (w : World) (e : Ending) (w' : World) : Prop := ∃ b : Bool, e = .returned (.bool b) ∧ (b = true → x.th.length ≤ 6 ∧ ∀ l ∈ x.th, l.length ≤ 20) ∧ Below w.heap.size w w'
set_option maxRecDepth 100000 in
theorem light_any (x : Sml) (p : Option Addr) (c B : Nat) (hc : x.th.length ≤ c ∧ c ≤ maxLen) (w : World) (hth : ThV w B x.th p) (hB : B ≤ w.heap.size) : Calls Tryd.prog 13 #[smv x p c] w (LiR x w) := by
  obtain ⟨n, hn⟩ : ∃ n, w.heap.size = n := ⟨_, rfl⟩
  obtain ⟨T, hT⟩ : ∃ T, x.th.length = T := ⟨_, rfl⟩
  have HTH := Lib.hid hth
  have HT := Lib.hid hT
  have HN := Lib.hid hn
  have hBn : B ≤ n := by omega
  obtain ⟨W, hW⟩ : ∃ W, w.alloc (.cells #[.int .u8 (x.ce : Int), .int .u8 (x.ar : Int), .int .u8 (x.mu : Int), .int .u8 (x.se : Int), .int .u8 (x.bu : Int), .int .i8 x.n, .slice p T c] 33) = W := ⟨_, rfl⟩
  have HBW : Hid (Below n w W) := Lib.hid (by rw [← hW, ← hn]; exact below_alloc _ _)
  have x6 : W.cell? ⟨n, 6, none⟩ = some (.slice p T c) := by rw [← hW, ← hn, cell_of_row _ _ 6 _ 33 (0, 0) (heap_alloc_new w _)]; rfl
  unfold smv
  rw [hT] at hc ⊢
  have hct : T ≤ 9223372036854775807 := by have := hc.1; have := hc.2; unfold maxLen at this; omega
  clear hth hB hT
  by_cases h6 : T ≤ 6
  · have h6i : ¬ (6 : Int) < (T : Int) := by omega
    go_enter Tryd.func13, Tryd.ntmps13
    go_wp2
    clear hW hn
    go_loopw [12] (fun i wr => ∃ j : Nat, j ≤ T ∧ i = .int .i64 (j : Int) ∧ wr = W ∧ ∀ k l, k < j → x.th[k]? = some l → l.length ≤ 20) (fun i _ => T - (intOf i).toNat)
    case atStart => exact ⟨0, Nat.zero_le _, rfl, rfl, fun k l h => by omega⟩
    case round =>
      obtain ⟨j, hj, rfl, rfl, hall⟩ := hrel
      have HALL := Lib.hid hall
      clear hall
      by_cases hlt : j < T
      · obtain ⟨l, hl⟩ : ∃ l, x.th[j]? = some l := ⟨x.th[j]'(by rw [HT.out]; exact hlt), List.getElem?_eq_getElem _⟩
        have hne : x.th ≠ [] := by intro e; rw [e] at hl; cases hl
        obtain ⟨g, o, rfl, hgB, hcell⟩ := HTH.out hne
        obtain ⟨vl, hvc, hlsv⟩ := hcell j l hl
        obtain ⟨pl, cl, rfl, hcl, hcm, _⟩ := hlsv
        have hgn : g < n := by omega
        have y0 : wr.cell? ⟨g, o + j, none⟩ = some (.slice pl l.length cl) := (HBW.out.cell (p := ⟨g, o + j, none⟩) hgn).trans hvc
        obtain ⟨ln, hln⟩ : ∃ ln, l.length = ln := ⟨_, rfl⟩
        have HL := Lib.hid hl
        have HLN := Lib.hid hln
        rw [hln] at y0
        have hltc : (j : Int) < (c : Int) := by have := hc.1; omega
        clear hcell hvc hl hln hne
        by_cases h20 : ln ≤ 20
        · have h20i : ¬ (20 : Int) < (ln : Int) := by omega
          go_wp2
          go_roundw
          case rel =>
            refine ⟨j + 1, by omega, by go_num, by first | rfl | trivial, fun k t hk ht => ?_⟩
            by_cases hkj : k = j
            · subst hkj
              have := HL.out
              rw [this] at ht
              injection ht with ht
              subst ht
              rw [HLN.out]; exact h20
            · exact HALL.out k t (by omega) ht
          case measure => simp [intOf]; omega
        · have h20i : (20 : Int) < (ln : Int) := by omega
          go_wp2
          go_ret
          exact ⟨false, rfl, (fun h => by cases h), by rw [HN.out]; exact HBW.out⟩
      · obtain rfl : j = T := by omega
        go_wp2
        go_ret
        refine ⟨true, rfl, fun _ => ⟨by rw [HT.out]; exact h6, fun l hl => ?_⟩, by rw [HN.out]; exact HBW.out⟩
        obtain ⟨k, hk⟩ := List.getElem?_of_mem hl
        exact HALL.out k l (by have := (List.getElem?_eq_some_iff.1 hk).1; rw [HT.out] at this; exact this) hk
  · have h6i : (6 : Int) < (T : Int) := by omega
    go_enter Tryd.func13, Tryd.ntmps13
    go_wp2
    clear hW hn
    refine bodyPost_ret (v := .bool false) (by simp [results, Tryd.results13, go_sem]) rfl ?_
    exact ⟨false, rfl, (fun h => by cases h), by rw [HN.out]; exact HBW.out⟩
/-- An empty program's variable. -/
def Bx (w : World) (b : Nat) : Prop := w.heap[b]? = some (.cells #[.slice none 0 0] 37)
section
variable {w w' v : World} {b : Nat}
theorem Bx.lt (h : Bx w b) : b < w.heap.size := by
  unfold Bx at h
  exact (Array.getElem?_eq_some_iff.1 h).1
theorem Bx.cell (h : Bx w b) : w.cell? ⟨b, 0, none⟩ = some (.slice none 0 0) := by rw [cell_of_row w b 0 _ 37 (0, 0) h]; rfl
theorem Bx.fr (h : Bx w b) : w.frozen? ⟨b, 0, none⟩ = false := by
  unfold Bx at h
  unfold World.frozen?
  simp only [h]
  simp
theorem Bx.on (h : Bx w b) (hb : Below w.heap.size w w') : Bx w' b := (hb.block b h.lt).trans h
theorem Bx.new (w : World) : Bx (w.alloc (.cells #[.slice none 0 0] 37)) w.heap.size := heap_alloc_new w _
theorem Bx.alloc (h : Bx w b) (o : Obj) : Bx (w.alloc o) b := (Below.heap_alloc _ _ _ h.lt).trans h
theorem Bx.drew (h : Bx w b) : Bx w.drew b := h
theorem Bx.new2 (w : World) (o : Obj) : Bx ((w.alloc o).alloc (.cells #[.slice none 0 0] 37)) (w.heap.size + 1) := by
  have := Bx.new (w.alloc o)
  simpa using this
end
/-- Two programs made, in two variables. -/
structure Two (w wx : World) (n : Nat) (l m : List Dc) (b7 b8 ga gb ca cb : Nat) : Prop where
  bel : Below n w wx
  p7 : wx.heap[b7]? = some (.cells #[.slice (some ⟨ga, 0, none⟩) l.length ca] 37)
  p8 : wx.heap[b8]? = some (.cells #[.slice (some ⟨gb, 0, none⟩) m.length cb] 37)
  n7 : n + 2 ≤ b7
  n8 : n + 2 ≤ b8
  ne : b7 ≠ b8
  qa : ga < wx.heap.size
  qa8 : ga ≠ b8
  qb : gb < wx.heap.size
  dl : DcsW wx (fun g => g < wx.heap.size ∧ g ≠ b8) l ga
  dm : DcsW wx (fun g => g < wx.heap.size) m gb
theorem one_set {w : World} {b : Nat} {u v : Value} (h : w.heap[b]? = some (.cells #[u] 37)) : (w.setCell ⟨b, 0, none⟩ v).heap[b]? = some (.cells #[v] 37) := by
  rw [heap_setCell_same w b 0 _ 37 v h]; rfl
theorem Two.of {w v : World} {n b7 b8 ga gb ca cb : Nat} {l m : List Dc} {S T : Nat → Prop} (hbw : Below n w v) (h7 : Bx v b7) (h8 : Bx v b8) (n7 : n + 2 ≤ b7) (n8 : n + 2 ≤ b8) (ne : b7 ≠ b8)
    (ha : DcsW v S l ga) (hSa : ∀ g, S g → g < v.heap.size ∧ g ≠ b7 ∧ g ≠ b8) (hga : S ga) (hb : DcsW v T m gb) (hTb : ∀ g, T g → g < v.heap.size ∧ g ≠ b7 ∧ g ≠ b8) (hgb : T gb) :
    Two w ((v.setCell ⟨b7, 0, none⟩ (.slice (some ⟨ga, 0, none⟩) l.length ca)).setCell ⟨b8, 0, none⟩ (.slice (some ⟨gb, 0, none⟩) m.length cb)) n l m b7 b8 ga gb ca cb := by
  have hz : ∀ u1 u2 : Value, ((v.setCell ⟨b7, 0, none⟩ u1).setCell ⟨b8, 0, none⟩ u2).heap.size = v.heap.size := fun _ _ => by simp
  have hk : ∀ (u1 u2 : Value) g, g ≠ b7 → g ≠ b8 → ((v.setCell ⟨b7, 0, none⟩ u1).setCell ⟨b8, 0, none⟩ u2).heap[g]? = v.heap[g]? := fun u1 u2 g h1 h2 => by
    rw [Below.heap_setCell _ _ _ _ h2, Below.heap_setCell _ _ _ _ h1]
  refine ⟨(hbw.setCell (by show n ≤ b7; omega) _).setCell (by show n ≤ b8; omega) _, ?_, ?_, n7, n8, ne, by rw [hz]; exact (hSa _ hga).1, (hSa _ hga).2.2, by rw [hz]; exact (hTb _ hgb).1, ?_, ?_⟩
  · rw [Below.heap_setCell _ _ _ _ ne]; exact one_set h7
  · refine one_set (u := .slice none 0 0) ?_
    rw [Below.heap_setCell _ _ _ _ (Ne.symm ne)]; exact h8
  · exact ha.on (fun g o hg => World.cell?_of_block (a := ⟨g, o, none⟩) (hk _ _ g (hSa g hg).2.1 (hSa g hg).2.2)) (fun g hg => ⟨by rw [hz]; exact (hSa g hg).1, (hSa g hg).2.2⟩) hga
  · exact hb.on (fun g o hg => World.cell?_of_block (a := ⟨g, o, none⟩) (hk _ _ g (hTb g hg).2.1 (hTb g hg).2.2)) (fun g hg => by rw [hz]; exact (hTb g hg).1) hgb
/-- The second program is the first one, made anew; its places are being turned. -/
structure Tw3 (w wr : World) (n : Nat) (l : List Dc) (b7 b8 ga gq ca cq B : Nat) : Prop where
  bel : Below n w wr
  p7 : wr.heap[b7]? = some (.cells #[.slice (some ⟨ga, 0, none⟩) l.length ca] 37)
  p8 : wr.heap[b8]? = some (.cells #[.slice (some ⟨gq, 0, none⟩) l.length cq] 37)
  n7 : n + 2 ≤ b7
  n8 : n + 2 ≤ b8
  ne : b7 ≠ b8
  l7 : b7 < B
  l8 : b8 < B
  la : ga < B
  a8 : ga ≠ b8
  lq : B ≤ gq
  qs : gq < wr.heap.size
  dl : DcsW wr (fun g => g < B ∧ g ≠ b8) l ga
  dm : ∀ i d, l[i]? = some d → ∃ p c a, Cd wr gq (i * 5) d p c a ∧ StsV wr (fun g => B ≤ g ∧ g < wr.heap.size ∧ g ≠ gq) d.body p c
  fz : ∀ o, wr.frozen? ⟨gq, o, none⟩ = false
theorem Tw3.two {w wr : World} {n b7 b8 ga gq ca cq B : Nat} {l : List Dc} (h : Tw3 w wr n l b7 b8 ga gq ca cq B) : Two w wr n l l b7 b8 ga gq ca cq := by
  have hB : B < wr.heap.size := Nat.lt_of_le_of_lt h.lq h.qs
  refine ⟨h.bel, h.p7, h.p8, h.n7, h.n8, h.ne, Nat.lt_trans h.la hB, h.a8, h.qs, h.dl.on (fun _ _ _ => rfl) (fun g hg => ⟨Nat.lt_trans hg.1 hB, hg.2⟩) ⟨h.la, h.a8⟩, fun i d hd => ?_⟩
  obtain ⟨p, c, a, hc, hv⟩ := h.dm i d hd
  exact ⟨p, c, a, hc, hv.on (fun _ _ _ => rfl) (fun g hg => hg.2.1)⟩
theorem Tw3.of {w wx wy : World} {n b7 b8 ga gb ca cb gq cq : Nat} {l m : List Dc} (h : Two w wx n l m b7 b8 ga gb ca cb) (hn : n ≤ wx.heap.size) (hq0 : wx.heap.size ≤ gq) (hq1 : gq < wy.heap.size)
    (hd : ∀ i d, l[i]? = some d → ∃ p c, Cd wy gq (i * 5) d p c 0 ∧ StsV wy (fun b => wx.heap.size ≤ b ∧ b < wy.heap.size ∧ b ≠ gq) d.body p c) (hf : ∀ o, wy.frozen? ⟨gq, o, none⟩ = false) (hb : Below wx.heap.size wx wy) :
    Tw3 w (wy.setCell ⟨b8, 0, none⟩ (.slice (some ⟨gq, 0, none⟩) l.length cq)) n l b7 b8 ga gq ca cq wx.heap.size := by
  have l7 : b7 < wx.heap.size := (Array.getElem?_eq_some_iff.1 h.p7).1
  have l8 : b8 < wx.heap.size := (Array.getElem?_eq_some_iff.1 h.p8).1
  have n8 := h.n8
  have hz : (wy.setCell ⟨b8, 0, none⟩ (.slice (some ⟨gq, 0, none⟩) l.length cq)).heap.size = wy.heap.size := by simp
  have hk : ∀ g, g ≠ b8 → (wy.setCell ⟨b8, 0, none⟩ (.slice (some ⟨gq, 0, none⟩) l.length cq)).heap[g]? = wy.heap[g]? := fun g h1 => Below.heap_setCell _ _ _ _ h1
  have hS : Same (fun g => g ≠ b8) wy (wy.setCell ⟨b8, 0, none⟩ (.slice (some ⟨gq, 0, none⟩) l.length cq)) := fun g o hg => World.cell?_of_block (a := ⟨g, o, none⟩) (hk g hg)
  have hq8 : gq ≠ b8 := by omega
  refine ⟨(h.bel.trans (hb.mono hn)).setCell (by show n ≤ b8; omega) _, ?_, ?_, h.n7, h.n8, h.ne, l7, l8, h.qa, h.qa8, hq0, by rw [hz]; exact hq1, ?_, fun i d hid => ?_, fun o => ?_⟩
  · rw [hk b7 h.ne, hb.block b7 l7]; exact h.p7
  · exact one_set (by rw [hb.block b8 l8]; exact h.p8)
  · exact h.dl.on (fun g o hg => (hS g o hg.2).trans (hb.cell (p := ⟨g, o, none⟩) hg.1)) (fun g hg => hg) ⟨h.qa, h.qa8⟩
  · obtain ⟨p, c, ⟨k0, k1, k2, k3, k4⟩, hv⟩ := hd i d hid
    exact ⟨p, c, 0, ⟨(hS gq _ hq8).trans k0, (hS gq _ hq8).trans k1, (hS gq _ hq8).trans k2, (hS gq _ hq8).trans k3, (hS gq _ hq8).trans k4⟩, hv.on (fun g o hg => hS g o (by have := hg.1; omega)) (fun g hg => ⟨hg.1, by rw [hz]; exact hg.2.1, hg.2.2⟩)⟩
  · rw [World.frozen?_setCell]; exact hf o
theorem Tw3.set {w wr : World} {n b7 b8 ga gq ca cq B j : Nat} {l : List Dc} (h : Tw3 w wr n l b7 b8 ga gq ca cq B) (hj : j < l.length) (z : Int) : Tw3 w (wr.setCell ⟨gq, j * 5 + 4, none⟩ (.int .i64 z)) n l b7 b8 ga gq ca cq B := by
  have l7 := h.l7
  have l8 := h.l8
  have lq := h.lq
  have n8 := h.n8
  have hz : (wr.setCell ⟨gq, j * 5 + 4, none⟩ (.int .i64 z)).heap.size = wr.heap.size := by simp
  have hk : ∀ g, g ≠ gq → (wr.setCell ⟨gq, j * 5 + 4, none⟩ (.int .i64 z)).heap[g]? = wr.heap[g]? := fun g h1 => Below.heap_setCell _ _ _ _ h1
  have hS : Same (fun g => g ≠ gq) wr (wr.setCell ⟨gq, j * 5 + 4, none⟩ (.int .i64 z)) := fun g o hg => World.cell?_of_block (a := ⟨g, o, none⟩) (hk g hg)
  have ho : ∀ o, o ≠ j * 5 + 4 → (wr.setCell ⟨gq, j * 5 + 4, none⟩ (.int .i64 z)).cell? ⟨gq, o, none⟩ = wr.cell? ⟨gq, o, none⟩ := fun o hne => World.cell?_setCell_other _ _ _ _ (by intro e; injection e with _ e2; exact hne e2.symm)
  refine ⟨h.bel.setCell (by show n ≤ gq; omega) _, by rw [hk b7 (by omega)]; exact h.p7, by rw [hk b8 (by omega)]; exact h.p8, h.n7, h.n8, h.ne, l7, l8, h.la, h.a8, lq, by rw [hz]; exact h.qs, h.dl.on (fun g o hg => hS g o (by have := hg.1; omega)) (fun g hg => hg) ⟨h.la, h.a8⟩, fun i d hid => ?_, fun o => by rw [World.frozen?_setCell]; exact h.fz o⟩
  obtain ⟨p, c, a, ⟨k0, k1, k2, k3, k4⟩, hv⟩ := h.dm i d hid
  have hv' := hv.on (S' := fun g => B ≤ g ∧ g < (wr.setCell ⟨gq, j * 5 + 4, none⟩ (.int .i64 z)).heap.size ∧ g ≠ gq) (fun g o hg => hS g o hg.2.2) (fun g hg => ⟨hg.1, by rw [hz]; exact hg.2.1, hg.2.2⟩)
  by_cases hij : i = j
  · subst hij
    exact ⟨p, c, z, ⟨(ho _ (by omega)).trans k0, (ho _ (by omega)).trans k1, (ho _ (by omega)).trans k2, (ho _ (by omega)).trans k3, World.cell?_setCell_same _ _ _ k4⟩, hv'⟩
  · exact ⟨p, c, a, ⟨(ho _ (by omega)).trans k0, (ho _ (by omega)).trans k1, (ho _ (by omega)).trans k2, (ho _ (by omega)).trans k3, (ho _ (by omega)).trans k4⟩, hv'⟩
section
variable {P : Program} {ops : Array Oper} {Q : Exit → Act → World → Prop} {md : Region.Mode} {S : World → Prop} {L : Nat}
/-- Number i or number j may come up now. -/
theorem wpAnyF_two {i j : Nat} {o o2 : Oper} {fuel : Nat} {listed : Array Bool} {a : Act} {w : World} (hr : Region.ready md ops listed = [i, j]) (ho : ops.toList[i]? = some o) (ho2 : ops.toList[j]? = some o2)
    (h : ∀ K' : Act → World → Prop, Shut (∀ a w, (i ≠ L → S w) → wpAnyF P md ops Q S L fuel (listed.setIfInBounds i true) a w → K' a w) → if Region.wanted o (yielded ops a.tmps) = true then Oper.wp P o a w K' Q else K' (a.put o.dst undef) w)
    (h2 : ∀ K' : Act → World → Prop, Shut (∀ a w, (j ≠ L → S w) → wpAnyF P md ops Q S L fuel (listed.setIfInBounds j true) a w → K' a w) → if Region.wanted o2 (yielded ops a.tmps) = true then Oper.wp P o2 a w K' Q else K' (a.put o2.dst undef) w) : wpAnyF P md ops Q S L (fuel + 1) listed a w := by
  rw [Array.getElem?_toList] at ho ho2
  refine ⟨fun h0 => absurd (hr ▸ h0) (by simp), fun k hk => ?_⟩
  rw [hr] at hk
  rcases List.mem_cons.1 hk with rfl | hk
  · exact wpOp_step ho (fun K' hK => h K' (fun a w h1 h2 => hK a w ⟨h1, h2⟩))
  · have : k = j := by simpa using hk
    subst this
    exact wpOp_step ho2 (fun K' hK => h2 K' (fun a w h1 h2 => hK a w ⟨h1, h2⟩))
/-- Number i, j or k may come up now. -/
theorem wpAnyF_three {i j k : Nat} {o o2 o3 : Oper} {fuel : Nat} {listed : Array Bool} {a : Act} {w : World} (hr : Region.ready md ops listed = [i, j, k]) (ho : ops.toList[i]? = some o) (ho2 : ops.toList[j]? = some o2) (ho3 : ops.toList[k]? = some o3)
    (h : ∀ K' : Act → World → Prop, Shut (∀ a w, (i ≠ L → S w) → wpAnyF P md ops Q S L fuel (listed.setIfInBounds i true) a w → K' a w) → if Region.wanted o (yielded ops a.tmps) = true then Oper.wp P o a w K' Q else K' (a.put o.dst undef) w)
    (h2 : ∀ K' : Act → World → Prop, Shut (∀ a w, (j ≠ L → S w) → wpAnyF P md ops Q S L fuel (listed.setIfInBounds j true) a w → K' a w) → if Region.wanted o2 (yielded ops a.tmps) = true then Oper.wp P o2 a w K' Q else K' (a.put o2.dst undef) w)
    (h3 : ∀ K' : Act → World → Prop, Shut (∀ a w, (k ≠ L → S w) → wpAnyF P md ops Q S L fuel (listed.setIfInBounds k true) a w → K' a w) → if Region.wanted o3 (yielded ops a.tmps) = true then Oper.wp P o3 a w K' Q else K' (a.put o3.dst undef) w) : wpAnyF P md ops Q S L (fuel + 1) listed a w := by
  rw [Array.getElem?_toList] at ho ho2 ho3
  refine ⟨fun h0 => absurd (hr ▸ h0) (by simp), fun m hk => ?_⟩
  rw [hr] at hk
  rcases List.mem_cons.1 hk with rfl | hk
  · exact wpOp_step ho (fun K' hK => h K' (fun a w h1 h2 => hK a w ⟨h1, h2⟩))
  rcases List.mem_cons.1 hk with rfl | hk
  · exact wpOp_step ho2 (fun K' hK => h2 K' (fun a w h1 h2 => hK a w ⟨h1, h2⟩))
  · have : m = k := by simpa using hk
    subst this
    exact wpOp_step ho3 (fun K' hK => h3 K' (fun a w h1 h2 => hK a w ⟨h1, h2⟩))
end
def X14 (n : Nat) (x : Sml) (p : Option Addr) (c : Nat) (y : Sml) (q : Option Addr) (d : Nat) (w' : World) : Prop := (w'.cell? ⟨n, 0, none⟩ = some (.int .u8 (x.ce : Int)) ∧ w'.cell? ⟨n, 1, none⟩ = some (.int .u8 (x.ar : Int)) ∧ w'.cell? ⟨n, 2, none⟩ = some (.int .u8 (x.mu : Int)) ∧ w'.cell? ⟨n, 3, none⟩ = some (.int .u8 (x.se : Int)) ∧ w'.cell? ⟨n, 4, none⟩ = some (.int .u8 (x.bu : Int)) ∧ w'.cell? ⟨n, 5, none⟩ = some (.int .i8 x.n) ∧ w'.cell? ⟨n, 6, none⟩ = some (.slice p x.th.length c)) ∧ w'.cell? ⟨n + 1, 0, none⟩ = some (.int .u8 (y.ce : Int)) ∧ w'.cell? ⟨n + 1, 1, none⟩ = some (.int .u8 (y.ar : Int)) ∧ w'.cell? ⟨n + 1, 2, none⟩ = some (.int .u8 (y.mu : Int)) ∧ w'.cell? ⟨n + 1, 3, none⟩ = some (.int .u8 (y.se : Int)) ∧ w'.cell? ⟨n + 1, 4, none⟩ = some (.int .u8 (y.bu : Int)) ∧ w'.cell? ⟨n + 1, 5, none⟩ = some (.int .i8 y.n) ∧ w'.cell? ⟨n + 1, 6, none⟩ = some (.slice q y.th.length d)
theorem X14.of {W W' : World} {n : Nat} {x : Sml} {p : Option Addr} {c : Nat} {y : Sml} {q : Option Addr} {d : Nat} (h1 : W.heap[n]? = some (xbox x p c)) (h2 : W.heap[n + 1]? = some (xbox y q d)) (hb : Below (n + 2) W W') : X14 n x p c y q d W' :=
  ⟨X7.of h1 (hb.mono (by omega)), X7.of h2 hb⟩
/-- Where a made program lies, apart from the variables. -/
def Ml (v : World) (l : List Dc) (g : Nat) (b7 b8 : Option Nat) : Prop := ∃ lo hi, lo ≤ g ∧ g < hi ∧ hi ≤ v.heap.size ∧ DcsW v (fun h => lo ≤ h ∧ h < hi) l g ∧ (∀ b, b7 = some b → b < lo ∨ hi ≤ b) ∧ ∀ b, b8 = some b → b < lo ∨ hi ≤ b
/-- What stands between the operations: which programs are made, which variables there are. -/
structure St (w W v : World) (n : Nat) (l m : List Dc) (m1 m2 b7 b8 : Option Nat) : Prop where
  bw : Below W.heap.size W v
  bn : Below n w v
  d1 : ∀ g, m1 = some g → Ml v l g b7 b8
  d2 : ∀ g, m2 = some g → Ml v m g b7 b8
  x7 : ∀ b, b7 = some b → Bx v b ∧ W.heap.size ≤ b
  x8 : ∀ b, b8 = some b → Bx v b ∧ W.heap.size ≤ b
  ne : ∀ b c, b7 = some b → b8 = some c → b ≠ c
section
variable {w W v v' : World} {n : Nat} {l m : List Dc} {m1 m2 b7 b8 : Option Nat} {g : Nat}
theorem Ml.on (h : Ml v l g b7 b8) (hb : Below v.heap.size v v') : Ml v' l g b7 b8 := by
  obtain ⟨lo, hi, h1, h2, h3, h4, h5, h6⟩ := h
  exact ⟨lo, hi, h1, h2, Nat.le_trans h3 hb.size, h4.on (fun g o hg => hb.cell (p := ⟨g, o, none⟩) (Nat.lt_of_lt_of_le hg.2 h3)) (fun _ h => h) ⟨h1, h2⟩, h5, h6⟩
theorem Ml.new (h1 : v.heap.size ≤ g) (h2 : g < v'.heap.size) (h3 : DcsAt v' (fun h => v.heap.size ≤ h ∧ h < v'.heap.size) l g) (h7 : ∀ b, b7 = some b → Bx v b) (h8 : ∀ b, b8 = some b → Bx v b) : Ml v' l g b7 b8 :=
  ⟨_, _, h1, h2, Nat.le_refl _, h3.w, fun b hb => .inl (h7 b hb).lt, fun b hb => .inl (h8 b hb).lt⟩
theorem Ml.al7 (h : Ml v l g none b8) (hb : Below v.heap.size v v') : Ml v' l g (some v.heap.size) b8 := by
  obtain ⟨lo, hi, h1, h2, h3, h4, h5, h6⟩ := h.on hb
  obtain ⟨lo, hi, h1, h2, h3, h4, h5, h6⟩ := h
  exact ⟨lo, hi, h1, h2, Nat.le_trans h3 hb.size, h4.on (fun g o hg => hb.cell (p := ⟨g, o, none⟩) (Nat.lt_of_lt_of_le hg.2 h3)) (fun _ h => h) ⟨h1, h2⟩, fun b hb => by injection hb with hb; subst hb; exact .inr h3, h6⟩
theorem Ml.al8 (h : Ml v l g b7 none) (hb : Below v.heap.size v v') : Ml v' l g b7 (some v.heap.size) := by
  obtain ⟨lo, hi, h1, h2, h3, h4, h5, h6⟩ := h
  exact ⟨lo, hi, h1, h2, Nat.le_trans h3 hb.size, h4.on (fun g o hg => hb.cell (p := ⟨g, o, none⟩) (Nat.lt_of_lt_of_le hg.2 h3)) (fun _ h => h) ⟨h1, h2⟩, h5, fun b hb => by injection hb with hb; subst hb; exact .inr h3⟩
theorem St.start (hw : Below W.heap.size W v) (hn : Below n w v) : St w W v n l m none none none none :=
  ⟨hw, hn, (fun _ h => by cases h), (fun _ h => by cases h), (fun _ h => by cases h), (fun _ h => by cases h), (fun _ _ h => by cases h)⟩
theorem St.mk1 (h : St w W v n l m none m2 b7 b8) (hn : w.heap.size = n) (hb : Below v.heap.size v v') (h1 : v.heap.size ≤ g) (h2 : g < v'.heap.size) (h3 : DcsAt v' (fun h => v.heap.size ≤ h ∧ h < v'.heap.size) l g) : St w W v' n l m (some g) m2 b7 b8 :=
  ⟨h.bw.trans (hb.mono h.bw.size), h.bn.trans (hb.mono (by have := h.bn.size; omega)), (fun g' e => by injection e with e; subst e; exact Ml.new h1 h2 h3 (fun b hb => (h.x7 b hb).1) (fun b hb => (h.x8 b hb).1)), fun g' e => (h.d2 g' e).on hb, fun b e => ⟨(h.x7 b e).1.on hb, (h.x7 b e).2⟩, fun b e => ⟨(h.x8 b e).1.on hb, (h.x8 b e).2⟩, h.ne⟩
theorem St.mk2 (h : St w W v n l m m1 none b7 b8) (hn : w.heap.size = n) (hb : Below v.heap.size v v') (h1 : v.heap.size ≤ g) (h2 : g < v'.heap.size) (h3 : DcsAt v' (fun h => v.heap.size ≤ h ∧ h < v'.heap.size) m g) : St w W v' n l m m1 (some g) b7 b8 :=
  ⟨h.bw.trans (hb.mono h.bw.size), h.bn.trans (hb.mono (by have := h.bn.size; omega)), fun g' e => (h.d1 g' e).on hb, (fun g' e => by injection e with e; subst e; exact Ml.new h1 h2 h3 (fun b hb => (h.x7 b hb).1) (fun b hb => (h.x8 b hb).1)), fun b e => ⟨(h.x7 b e).1.on hb, (h.x7 b e).2⟩, fun b e => ⟨(h.x8 b e).1.on hb, (h.x8 b e).2⟩, h.ne⟩
theorem St.al7 (h : St w W v n l m m1 m2 none b8) (hn : w.heap.size = n) : St w W (v.alloc (.cells #[.slice none 0 0] 37)) n l m m1 m2 (some v.heap.size) b8 := by
  have hb : Below v.heap.size v (v.alloc (.cells #[.slice none 0 0] 37)) := below_alloc v _
  exact ⟨h.bw.trans (hb.mono h.bw.size), h.bn.trans (hb.mono (by have := h.bn.size; omega)), fun g' e => (h.d1 g' e).al7 hb, fun g' e => (h.d2 g' e).al7 hb, (fun b e => by injection e with e; subst e; exact ⟨Bx.new v, h.bw.size⟩), fun b e => ⟨(h.x8 b e).1.on hb, (h.x8 b e).2⟩, (fun b c e1 e2 => by injection e1 with e1; subst e1; exact fun e => absurd (h.x8 c e2).1.lt (by omega))⟩
theorem St.al8 (h : St w W v n l m m1 m2 b7 none) (hn : w.heap.size = n) : St w W (v.alloc (.cells #[.slice none 0 0] 37)) n l m m1 m2 b7 (some v.heap.size) := by
  have hb : Below v.heap.size v (v.alloc (.cells #[.slice none 0 0] 37)) := below_alloc v _
  exact ⟨h.bw.trans (hb.mono h.bw.size), h.bn.trans (hb.mono (by have := h.bn.size; omega)), fun g' e => (h.d1 g' e).al8 hb, fun g' e => (h.d2 g' e).al8 hb, fun b e => ⟨(h.x7 b e).1.on hb, (h.x7 b e).2⟩, (fun b e => by injection e with e; subst e; exact ⟨Bx.new v, h.bw.size⟩), (fun b c e1 e2 => by injection e2 with e2; subst e2; exact fun e => absurd (h.x7 b e1).1.lt (by omega))⟩
theorem St.two {ga gb a7 a8 ca cb : Nat} (h : St w W v n l m (some ga) (some gb) (some a7) (some a8)) (hW : n + 2 ≤ W.heap.size) :
    Two w ((v.setCell ⟨a7, 0, none⟩ (.slice (some ⟨ga, 0, none⟩) l.length ca)).setCell ⟨a8, 0, none⟩ (.slice (some ⟨gb, 0, none⟩) m.length cb)) n l m a7 a8 ga gb ca cb := by
  obtain ⟨lo, hi, h1, h2, h3, h4, h5, h6⟩ := h.d1 _ rfl
  obtain ⟨lo', hi', k1, k2, k3, k4, k5, k6⟩ := h.d2 _ rfl
  have j1 := h5 _ rfl
  have j2 := h6 _ rfl
  have j3 := k5 _ rfl
  have j4 := k6 _ rfl
  exact Two.of h.bn (h.x7 _ rfl).1 (h.x8 _ rfl).1 (Nat.le_trans hW (h.x7 _ rfl).2) (Nat.le_trans hW (h.x8 _ rfl).2) (h.ne _ _ rfl rfl) h4 (fun g hg => ⟨by omega, by omega, by omega⟩) ⟨h1, h2⟩ k4 (fun g hg => ⟨by omega, by omega, by omega⟩) ⟨k1, k2⟩
end
theorem Two.calls {w wx : World} {n : Nat} {l m : List Dc} {b7 b8 ga gb ca cb : Nat} (h : Two w wx n l m b7 b8 ga gb ca cb) (hl : Lb w) (hn : w.heap.size = n) (h7 : 7 ≤ n) (wl : ∀ d ∈ l, Wdc d) (wm : ∀ d ∈ m, Wdc d) (vl : ∀ d ∈ l, Wr d) (vm : ∀ d ∈ m, Wr d)
    (sl : (dcsT l).length ≤ 1000000 ∧ 0 < l.length ∧ l.length ≤ 15) (sm : (dcsT m).length ≤ 1000000 ∧ 0 < m.length ∧ m.length ≤ 15) :
    ∃ (t : Bool) (T1 T2 : ByteArray),
      (∀ w', Below wx.heap.size wx w' → Calls Tryd.prog 17 #[.agg #[.slice (some ⟨ga, 0, none⟩) l.length ca], .agg #[.slice (some ⟨gb, 0, none⟩) m.length cb]] w' fun e w2 => e = .returned (.bool t) ∧ Below wx.heap.size wx w2) ∧
      (∀ w', Below wx.heap.size wx w' → Calls Tryd.prog 17 #[.agg #[.slice (some ⟨gb, 0, none⟩) m.length cb], .agg #[.slice (some ⟨ga, 0, none⟩) l.length ca]] w' fun e w2 => e = .returned (.bool t) ∧ Below wx.heap.size wx w2) ∧
      (∀ w', Below wx.heap.size wx w' → Calls Tryd.prog 16 #[.agg #[.slice (some ⟨ga, 0, none⟩) l.length ca]] w' fun e w2 => e = .returned (.string T1) ∧ Below wx.heap.size wx w2) ∧
      (∀ w', Below wx.heap.size wx w' → Calls Tryd.prog 16 #[.agg #[.slice (some ⟨gb, 0, none⟩) m.length cb]] w' fun e w2 => e = .returned (.string T2) ∧ Below wx.heap.size wx w2) ∧
      (T1.toList == T2.toList) = t := by
  have da : ∀ w', Below wx.heap.size wx w' → ga < w'.heap.size ∧ DcsW w' (fun g => g < w'.heap.size) l ga := fun w' hb =>
    ⟨Nat.lt_of_lt_of_le h.qa hb.size, h.dl.on (fun g o hg => hb.cell (p := ⟨g, o, none⟩) hg.1) (fun g hg => Nat.lt_of_lt_of_le hg.1 hb.size) ⟨h.qa, h.qa8⟩⟩
  have db : ∀ w', Below wx.heap.size wx w' → gb < w'.heap.size ∧ DcsW w' (fun g => g < w'.heap.size) m gb := fun w' hb =>
    ⟨Nat.lt_of_lt_of_le h.qb hb.size, h.dm.on (fun g o hg => hb.cell (p := ⟨g, o, none⟩) hg) (fun g hg => Nat.lt_of_lt_of_le hg hb.size) h.qb⟩
  have lb : ∀ w', Below wx.heap.size wx w' → Lb w' := fun w' hb => hl.on (h.bel.trans (hb.mono (by have := h.bel.size; omega))) h7
  have ht : ∃ t : Bool, (t = true ↔ l = m) ∧ ((⟨(dcsT l).toArray⟩ : ByteArray).toList == (⟨(dcsT m).toArray⟩ : ByteArray).toList) = t := by
    by_cases e : l = m
    · subst e; exact ⟨true, by simp, by simp⟩
    · refine ⟨false, by simp [e], ba_ne (fun hc => e ?_)⟩
      injection hc with hc
      exact dcs_inj l m (fun d hd => ⟨wl d hd, vl d hd⟩) (fun d hd => ⟨wm d hd, vm d hd⟩) (by simpa using hc)
  obtain ⟨t, ht, htt⟩ := ht
  refine ⟨t, _, _, fun w' hb => ?_, fun w' hb => ?_, fun w' hb => ?_, fun w' hb => ?_, htt⟩
  · refine (same17 l m wl wm ga gb ca cb w' (by omega) (da w' hb).1 (db w' hb).1 (da w' hb).2 (db w' hb).2).mono ?_
    rintro e w2 ⟨t', rfl, h1, h2⟩
    have : t' = t := Bool.eq_iff_iff.2 (h1.trans ht.symm)
    exact ⟨by rw [this], hb.trans (h2.mono hb.size)⟩
  · refine (same17 m l wm wl gb ga cb ca w' (by omega) (db w' hb).1 (da w' hb).1 (db w' hb).2 (da w' hb).2).mono ?_
    rintro e w2 ⟨t', rfl, h1, h2⟩
    have : t' = t := Bool.eq_iff_iff.2 ((h1.trans ⟨Eq.symm, Eq.symm⟩).trans ht.symm)
    exact ⟨by rw [this], hb.trans (h2.mono hb.size)⟩
  · refine (ptext_w l ga ca w' (lb w' hb) wl (da w' hb).1 sl.2.1 (da w' hb).2 sl.1).mono ?_
    rintro e w2 ⟨rfl, h2⟩
    exact ⟨rfl, hb.trans (h2.mono hb.size)⟩
  · refine (ptext_w m gb cb w' (lb w' hb) wm (db w' hb).1 sm.2.1 (db w' hb).2 sm.1).mono ?_
    rintro e w2 ⟨rfl, h2⟩
    exact ⟨rfl, hb.trans (h2.mono hb.size)⟩
set_option maxRecDepth 100000 in
set_option maxHeartbeats 3200000 in
theorem sames_any (x : Sml) (p : Option Addr) (c : Nat) (y : Sml) (q : Option Addr) (d : Nat) (u : Nat) (hu : u < 256) (hx0 : x.th.length ≤ 6 → Smok x) (hy0 : y.th.length ≤ 6 → Smok y) (hc : x.th.length ≤ c ∧ c ≤ maxLen) (hd : y.th.length ≤ d ∧ d ≤ maxLen) (hok : ∀ l ∈ x.th, ∀ s ∈ l, S5ok s) (hok2 : ∀ l ∈ y.th, ∀ s ∈ l, S5ok s) (w : World) (hl : Lb w) (hth : ThV w w.heap.size x.th p) (hty : ThV w w.heap.size y.th q) :
    Calls Tryd.prog 5 #[smv x p c, smv y q d, .int .u8 (u : Int)] w fun e w' => e = .returned (.bool true) ∧ Below w.heap.size w w' := by
  obtain ⟨n, hn⟩ : ∃ n, w.heap.size = n := ⟨_, rfl⟩
  have HN := Lib.hid hn
  have HL := Lib.hid hl
  have h7 : 7 ≤ n := by have := hl.size; omega
  rw [hn] at hth hty
  obtain ⟨W, hW⟩ : ∃ W, (w.alloc (.cells #[.int .u8 (x.ce : Int), .int .u8 (x.ar : Int), .int .u8 (x.mu : Int), .int .u8 (x.se : Int), .int .u8 (x.bu : Int), .int .i8 x.n, .slice p x.th.length c] 33)).alloc (.cells #[.int .u8 (y.ce : Int), .int .u8 (y.ar : Int), .int .u8 (y.mu : Int), .int .u8 (y.se : Int), .int .u8 (y.bu : Int), .int .i8 y.n, .slice q y.th.length d] 33) = W := ⟨_, rfl⟩
  have HBW : Hid (Below n w W) := Lib.hid (by rw [← hW, ← hn]; exact (below_alloc w _).alloc (by simp) _)
  have HBX : Hid (W.heap[n]? = some (xbox x p c)) := Lib.hid (by rw [← hW, ← hn, Below.heap_alloc _ _ _ (by simp)]; exact heap_alloc_new w _)
  have HBY : Hid (W.heap[n + 1]? = some (xbox y q d)) := Lib.hid (by rw [← hW, ← hn]; have := heap_alloc_new (w.alloc (xbox x p c)) (xbox y q d); simpa [xbox] using this)
  have HWS : Hid (n + 2 ≤ W.heap.size) := Lib.hid (by rw [← hW]; simp; omega)
  have HX7 : Hid (∀ w', Below W.heap.size W w' → X14 n x p c y q d w') := Lib.hid (fun w' hb => X14.of HBX.out HBY.out (hb.mono HWS.out))
  have HAW : Hid (∀ w', Below n w w' → Calls Tryd.prog 6 #[] w' fun e w2 => e = .returned (.bool true) ∧ Below w'.heap.size w' w2) := Lib.hid (fun w' hb => awake_any w' (HL.out.on hb h7))
  have HLI : Hid (∀ w', Below n w w' → Calls Tryd.prog 13 #[smv x p c] w' (LiR x w')) := Lib.hid (fun w' hb => light_any x p c n hc w' (hth.below hb) (by have := hb.size; omega))
  have HLJ : Hid (∀ w', Below n w w' → Calls Tryd.prog 13 #[smv y q d] w' (LiR y w')) := Lib.hid (fun w' hb => light_any y q d n hd w' (hty.below hb) (by have := hb.size; omega))
  have HMK : Hid (Smok x → (∀ l ∈ x.th, l.length ≤ 20) → ∀ w', Below n w w' → Calls Tryd.prog 15 #[smv x p c] w' (MkP w' (aProg x))) := Lib.hid (fun hx h20 w' hb => make_any x p c n hx (fun l hl => ⟨h20 l hl, hok l hl⟩) hc w' (hth.below hb) (by have := hb.size; omega))
  have HMY : Hid (Smok y → (∀ l ∈ y.th, l.length ≤ 20) → ∀ w', Below n w w' → Calls Tryd.prog 15 #[smv y q d] w' (MkP w' (aProg y))) := Lib.hid (fun hx h20 w' hb => make_any y q d n hx (fun l hl => ⟨h20 l hl, hok2 l hl⟩) hd w' (hty.below hb) (by have := hb.size; omega))
  have HSX := Lib.hid hx0
  have HSY := Lib.hid hy0
  unfold smv at HLI HLJ HMK HMY
  unfold smv
  have HMR : Hid (Smok x → (∀ l ∈ x.th, l.length ≤ 20) → ∀ w', Below n w w' → Calls Tryd.prog 15 #[smv x p c] w' (MkQ w' (aProg x))) := Lib.hid (fun hx h20 w' hb => make_q x p c n hx (fun l hl => ⟨h20 l hl, hok l hl⟩) hc w' (hth.below hb) (by have := hb.size; omega))
  unfold smv at HMR
  clear hl hth hty hok hok2 hc hd hx0 hy0
  go_enter Tryd.func5, Tryd.ntmps5
  go_wp2_with (go_at_call 6; refine Hid.out ?_)
  refine Lib.hid ?_
  clear hW hn
  refine (HAW.out _ HBW.out).mono ?_
  rintro e w1 ⟨rfl, hb1⟩
  have HB1 : Hid (Below n w w1) := Lib.hid (HBW.out.trans (hb1.mono (by have := HWS.out; omega)))
  have HB1W := Lib.hid hb1
  have hx1 := HX7.out w1 hb1
  unfold X14 at hx1
  obtain ⟨⟨c0, c1, c2, c3, c4, c5, c6⟩, d0, d1, d2, d3, d4, d5, d6⟩ := hx1
  clear hb1
  go_wp2_with (go_at_call 13; refine Hid.out ?_)
  refine Lib.hid ?_
  refine (HLI.out _ HB1.out).mono ?_
  rintro e w2 ⟨b, rfl, hb, hb2⟩
  have HB2 : Hid (Below n w w2) := Lib.hid (HB1.out.trans (hb2.mono (by have := HB1.out.size; have := HN.out; omega)))
  have HB2W : Hid (Below W.heap.size W w2) := Lib.hid (HB1W.out.trans (hb2.mono HB1W.out.size))
  have hx2 := HX7.out w2 HB2W.out
  unfold X14 at hx2
  clear hb2 c0 c1 c2 c3 c4 c5 c6 d0 d1 d2 d3 d4 d5 d6
  obtain ⟨⟨c0, c1, c2, c3, c4, c5, c6⟩, d0, d1, d2, d3, d4, d5, d6⟩ := hx2
  cases b with
  | false =>
    go_wp2
    refine bodyPost_ret (v := .bool true) (by simp [results, Tryd.results5, go_sem]) rfl ⟨rfl, by rw [HN.out]; exact HB2.out⟩
  | true =>
    obtain ⟨t6, t20⟩ := hb rfl
    have HMX := Lib.hid (HMK.out (HSX.out t6) t20)
    have HMQ := Lib.hid (HMR.out (HSX.out t6) t20)
    have HRX := Lib.hid (aProg_right x (HSX.out t6))
    have HVX := Lib.hid (aProg_small x (HSX.out t6))
    have HXL := Lib.hid (aProg_len x (HSX.out t6) t20)
    clear hb t6 t20
    go_wp2_with (go_at_call 13; refine Hid.out ?_)
    refine Lib.hid ?_
    refine (HLJ.out _ HB2.out).mono ?_
    rintro e w3 ⟨b, rfl, hb, hb3⟩
    have HB3 : Hid (Below n w w3) := Lib.hid (HB2.out.trans (hb3.mono (by have := HB2.out.size; have := HN.out; omega)))
    have HB3W : Hid (Below W.heap.size W w3) := Lib.hid (HB2W.out.trans (hb3.mono HB2W.out.size))
    clear hb3 c0 c1 c2 c3 c4 c5 c6 d0 d1 d2 d3 d4 d5 d6
    cases b with
    | false =>
      go_wp2
      refine bodyPost_ret (v := .bool true) (by simp [results, Tryd.results5, go_sem]) rfl ⟨rfl, by rw [HN.out]; exact HB3.out⟩
    | true =>
      obtain ⟨t6, t20⟩ := hb rfl
      have HMZ := Lib.hid (HMY.out (HSY.out t6) t20)
      have HRY := Lib.hid (aProg_right y (HSY.out t6))
      have HVY := Lib.hid (aProg_small y (HSY.out t6))
      have HYL := Lib.hid (aProg_len y (HSY.out t6) t20)
      clear hb t6 t20
      obtain ⟨L, hL⟩ : ∃ L, (aProg x).length = L := ⟨_, rfl⟩
      obtain ⟨M, hM⟩ : ∃ M, (aProg y).length = M := ⟨_, rfl⟩
      have HLX := Lib.hid hL
      have HLY := Lib.hid hM
      unfold MkP at HMX HMZ
      unfold MkQ at HMQ
      rw [hL] at HMQ
      rw [hL] at HMX
      rw [hM] at HMZ
      clear hL hM
      have hbA : Below n w w3.drew := ⟨HB3.out.os, HB3.out.tape, HB3.out.output, HB3.out.size, HB3.out.block⟩
      have hbW : Below W.heap.size W w3.drew := ⟨HB3W.out.os, HB3W.out.tape, HB3W.out.output, HB3W.out.size, HB3W.out.block⟩
      go_upto_region 5 with fail
      have HM1 : Hid (∀ w', Below n w w' → Calls Tryd.prog 15 #[.agg #[.int .u8 (x.ce : Int), .int .u8 (x.ar : Int), .int .u8 (x.mu : Int), .int .u8 (x.se : Int), .int .u8 (x.bu : Int), .int .i8 x.n, .slice p x.th.length c]] w' fun e w'' => ∃ gx cx, e = .returned (.agg #[.slice (some ⟨gx, 0, none⟩) L cx]) ∧ w'.heap.size ≤ gx ∧ gx < w''.heap.size ∧ DcsAt w'' (fun g => w'.heap.size ≤ g ∧ g < w''.heap.size) (aProg x) gx ∧ Below w'.heap.size w' w'') := HMX
      have HM2 : Hid (∀ w', Below n w w' → Calls Tryd.prog 15 #[.agg #[.int .u8 (y.ce : Int), .int .u8 (y.ar : Int), .int .u8 (y.mu : Int), .int .u8 (y.se : Int), .int .u8 (y.bu : Int), .int .i8 y.n, .slice q y.th.length d]] w' fun e w'' => ∃ gx cx, e = .returned (.agg #[.slice (some ⟨gx, 0, none⟩) M cx]) ∧ w'.heap.size ≤ gx ∧ gx < w''.heap.size ∧ DcsAt w'' (fun g => w'.heap.size ≤ g ∧ g < w''.heap.size) (aProg y) gx ∧ Below w'.heap.size w' w'') := HMZ
      clear HMX HMZ HLI HLJ HMK HMY HAW
      go_cut [7, 8] (fun u7 u8 wx => ∃ b7 b8 ga gb ca cb, u7 = .pointer (some ⟨b7, 0, none⟩) ∧ u8 = .pointer (some ⟨b8, 0, none⟩) ∧ Two w wx n (aProg x) (aProg y) b7 b8 ga gb ca cb ∧ Below W.heap.size W wx)
      case first =>
        refine wp_region_lapse (by kernel_rfl) (fun w' => Below W.heap.size W w') 7 ?_
        obtain ⟨v0, hv0⟩ : ∃ v0, w3.drew = v0 := ⟨_, rfl⟩
        rw [hv0] at hbA hbW ⊢
        have HS0 : Hid (St w W v0 n (aProg x) (aProg y) none none none none) := Lib.hid (St.start hbW hbA)
        have hS0 := hbW
        clear hv0 hbA hbW
        refine wpAnyF_take (i := 0) (v := .agg #[.int .u8 (x.ce : Int), .int .u8 (x.ar : Int), .int .u8 (x.mu : Int), .int .u8 (x.se : Int), .int .u8 (x.bu : Int), .int .i8 x.n, .slice p x.th.length c]) rfl (by kernel_rfl) (by kernel_rfl) (by kernel_rfl) (by kernel_rfl) (fun _ _ _ h => h) (Or.inl ⟨by rfl, ?h5x0⟩) hS0 ?_
        case h5x0 => (intro w hSw; have hq := HX7.out _ hSw; unfold X14 at hq; obtain ⟨⟨c0, c1, c2, c3, c4, c5, c6⟩, d0, d1, d2, d3, d4, d5, d6⟩ := hq; clear hSw; go_simp; try with_reducible rfl)
        simp only [Act.put, List.setIfInBounds_toArray, List.set_cons_zero, List.set_cons_succ]
        refine wpAnyF_take (i := 2) (v := .agg #[.int .u8 (y.ce : Int), .int .u8 (y.ar : Int), .int .u8 (y.mu : Int), .int .u8 (y.se : Int), .int .u8 (y.bu : Int), .int .i8 y.n, .slice q y.th.length d]) rfl (by kernel_rfl) (by kernel_rfl) (by kernel_rfl) (by kernel_rfl) (fun _ _ _ h => h) (Or.inl ⟨by rfl, ?h5x2⟩) hS0 ?_
        case h5x2 => (intro w hSw; have hq := HX7.out _ hSw; unfold X14 at hq; obtain ⟨⟨c0, c1, c2, c3, c4, c5, c6⟩, d0, d1, d2, d3, d4, d5, d6⟩ := hq; clear hSw; go_simp; try with_reducible rfl)
        simp only [Act.put, List.setIfInBounds_toArray, List.set_cons_zero, List.set_cons_succ]
        clear hS0
        refine wpAnyF_three (i := 1) (j := 4) (k := 5) (by kernel_rfl) rfl rfl rfl (fun K hK => ?_) (fun K hK => ?_) (fun K hK => ?_)
        · skip
          go_simp
          go_at_call 15
          refine (HM1.out _ HS0.out.bn).mono ?_
          rintro e v1 ⟨gx, cx, rfl, h1, h2, h3, h4⟩
          have HS1 : Hid (St w W v1 n (aProg x) (aProg y) (some gx) none none none) := Lib.hid (HS0.out.mk1 HN.out h4 h1 h2 h3)
          refine hK.out _ _ (fun _ => HS1.out.bw) ?_
          clear hK K h1 h2 h3 h4
          try simp only [Act.put, List.setIfInBounds_toArray, List.set_cons_zero, List.set_cons_succ]
          refine wpAnyF_three (i := 3) (j := 4) (k := 5) (by kernel_rfl) rfl rfl rfl (fun K hK => ?_) (fun K hK => ?_) (fun K hK => ?_)
          · skip
            go_simp
            go_at_call 15
            refine (HM2.out _ HS1.out.bn).mono ?_
            rintro e v2 ⟨gy, cy, rfl, h1, h2, h3, h4⟩
            have HS2 : Hid (St w W v2 n (aProg x) (aProg y) (some gx) (some gy) none none) := Lib.hid (HS1.out.mk2 HN.out h4 h1 h2 h3)
            refine hK.out _ _ (fun _ => HS2.out.bw) ?_
            clear hK K h1 h2 h3 h4
            try simp only [Act.put, List.setIfInBounds_toArray, List.set_cons_zero, List.set_cons_succ]
            refine wpAnyF_two (i := 4) (j := 5) (by kernel_rfl) rfl rfl (fun K hK => ?_) (fun K hK => ?_)
            · skip
              obtain ⟨v3, hv⟩ : ∃ v', v2.alloc (.cells #[.slice none 0 0] 37) = v' := ⟨_, rfl⟩
              obtain ⟨b7, hb⟩ : ∃ b, v2.heap.size = b := ⟨_, rfl⟩
              have HS3 : Hid (St w W v3 n (aProg x) (aProg y) (some gx) (some gy) (some b7) none) := Lib.hid (by rw [← hv, ← hb]; exact HS2.out.al7 HN.out)
              go_simp
              refine hK.out _ _ (fun _ => HS3.out.bw) ?_
              clear hK K hv hb
              try simp only [Act.put, List.setIfInBounds_toArray, List.set_cons_zero, List.set_cons_succ]
              refine wpAnyF_one (i := 5) (by kernel_rfl) rfl (fun K hK => ?_)
              obtain ⟨v4, hv⟩ : ∃ v', v3.alloc (.cells #[.slice none 0 0] 37) = v' := ⟨_, rfl⟩
              obtain ⟨b8, hb⟩ : ∃ b, v3.heap.size = b := ⟨_, rfl⟩
              have HS4 : Hid (St w W v4 n (aProg x) (aProg y) (some gx) (some gy) (some b7) (some b8)) := Lib.hid (by rw [← hv, ← hb]; exact HS3.out.al8 HN.out)
              go_simp
              refine hK.out _ _ (fun _ => HS4.out.bw) ?_
              clear hK K hv hb
              try simp only [Act.put, List.setIfInBounds_toArray, List.set_cons_zero, List.set_cons_succ]
              have e7 := (HS4.out.x7 _ rfl).1.cell
              have f7 := (HS4.out.x7 _ rfl).1.fr
              refine wpAnyF_one (i := 6) (by kernel_rfl) rfl (fun K hK => ?_)
              go_simp
              refine hK.out _ _ (fun _ => HS4.out.bw.setCell (p := ⟨b7, 0, none⟩) (HS4.out.x7 _ rfl).2 _) ?_
              clear hK K e7 f7
              try simp only [Act.put, List.setIfInBounds_toArray, List.set_cons_zero, List.set_cons_succ]
              have e8 : (v4.setCell ⟨b7, 0, none⟩ (.slice (some ⟨gx, 0, none⟩) L cx)).cell? ⟨b8, 0, none⟩ = some (.slice none 0 0) := by rw [World.cell?_setCell_other _ _ _ _ (fun e => by injection e with e1 _; exact HS4.out.ne _ _ rfl rfl e1)]; exact (HS4.out.x8 _ rfl).1.cell
              have f8 : (v4.setCell ⟨b7, 0, none⟩ (.slice (some ⟨gx, 0, none⟩) L cx)).frozen? ⟨b8, 0, none⟩ = false := by rw [World.frozen?_setCell]; exact (HS4.out.x8 _ rfl).1.fr
              refine wpAnyF_one (i := 7) (by kernel_rfl) rfl (fun K hK => ?_)
              go_simp
              refine hK.out _ _ (fun hne => absurd rfl hne) ?_
              clear hK K e8 f8
              try simp only [Act.put, List.setIfInBounds_toArray, List.set_cons_zero, List.set_cons_succ]
              refine wpAnyF_done (by kernel_rfl) ?_ _
              go_wp2_with fail
              go_meet
              exact ⟨b7, b8, gx, gy, cx, cy, rfl, rfl, by rw [← HLX.out, ← HLY.out]; exact HS4.out.two HWS.out, (HS4.out.bw.setCell (p := ⟨b7, 0, none⟩) (HS4.out.x7 _ rfl).2 _).setCell (p := ⟨b8, 0, none⟩) (HS4.out.x8 _ rfl).2 _⟩
            · skip
              obtain ⟨v3, hv⟩ : ∃ v', v2.alloc (.cells #[.slice none 0 0] 37) = v' := ⟨_, rfl⟩
              obtain ⟨b8, hb⟩ : ∃ b, v2.heap.size = b := ⟨_, rfl⟩
              have HS3 : Hid (St w W v3 n (aProg x) (aProg y) (some gx) (some gy) none (some b8)) := Lib.hid (by rw [← hv, ← hb]; exact HS2.out.al8 HN.out)
              go_simp
              refine hK.out _ _ (fun _ => HS3.out.bw) ?_
              clear hK K hv hb
              try simp only [Act.put, List.setIfInBounds_toArray, List.set_cons_zero, List.set_cons_succ]
              refine wpAnyF_one (i := 4) (by kernel_rfl) rfl (fun K hK => ?_)
              obtain ⟨v4, hv⟩ : ∃ v', v3.alloc (.cells #[.slice none 0 0] 37) = v' := ⟨_, rfl⟩
              obtain ⟨b7, hb⟩ : ∃ b, v3.heap.size = b := ⟨_, rfl⟩
              have HS4 : Hid (St w W v4 n (aProg x) (aProg y) (some gx) (some gy) (some b7) (some b8)) := Lib.hid (by rw [← hv, ← hb]; exact HS3.out.al7 HN.out)
              go_simp
              refine hK.out _ _ (fun _ => HS4.out.bw) ?_
              clear hK K hv hb
              try simp only [Act.put, List.setIfInBounds_toArray, List.set_cons_zero, List.set_cons_succ]
              have e7 := (HS4.out.x7 _ rfl).1.cell
              have f7 := (HS4.out.x7 _ rfl).1.fr
              refine wpAnyF_one (i := 6) (by kernel_rfl) rfl (fun K hK => ?_)
              go_simp
              refine hK.out _ _ (fun _ => HS4.out.bw.setCell (p := ⟨b7, 0, none⟩) (HS4.out.x7 _ rfl).2 _) ?_
              clear hK K e7 f7
              try simp only [Act.put, List.setIfInBounds_toArray, List.set_cons_zero, List.set_cons_succ]
              have e8 : (v4.setCell ⟨b7, 0, none⟩ (.slice (some ⟨gx, 0, none⟩) L cx)).cell? ⟨b8, 0, none⟩ = some (.slice none 0 0) := by rw [World.cell?_setCell_other _ _ _ _ (fun e => by injection e with e1 _; exact HS4.out.ne _ _ rfl rfl e1)]; exact (HS4.out.x8 _ rfl).1.cell
              have f8 : (v4.setCell ⟨b7, 0, none⟩ (.slice (some ⟨gx, 0, none⟩) L cx)).frozen? ⟨b8, 0, none⟩ = false := by rw [World.frozen?_setCell]; exact (HS4.out.x8 _ rfl).1.fr
              refine wpAnyF_one (i := 7) (by kernel_rfl) rfl (fun K hK => ?_)
              go_simp
              refine hK.out _ _ (fun hne => absurd rfl hne) ?_
              clear hK K e8 f8
              try simp only [Act.put, List.setIfInBounds_toArray, List.set_cons_zero, List.set_cons_succ]
              refine wpAnyF_done (by kernel_rfl) ?_ _
              go_wp2_with fail
              go_meet
              exact ⟨b7, b8, gx, gy, cx, cy, rfl, rfl, by rw [← HLX.out, ← HLY.out]; exact HS4.out.two HWS.out, (HS4.out.bw.setCell (p := ⟨b7, 0, none⟩) (HS4.out.x7 _ rfl).2 _).setCell (p := ⟨b8, 0, none⟩) (HS4.out.x8 _ rfl).2 _⟩
          · skip
            obtain ⟨v2, hv⟩ : ∃ v', v1.alloc (.cells #[.slice none 0 0] 37) = v' := ⟨_, rfl⟩
            obtain ⟨b7, hb⟩ : ∃ b, v1.heap.size = b := ⟨_, rfl⟩
            have HS2 : Hid (St w W v2 n (aProg x) (aProg y) (some gx) none (some b7) none) := Lib.hid (by rw [← hv, ← hb]; exact HS1.out.al7 HN.out)
            go_simp
            refine hK.out _ _ (fun _ => HS2.out.bw) ?_
            clear hK K hv hb
            try simp only [Act.put, List.setIfInBounds_toArray, List.set_cons_zero, List.set_cons_succ]
            refine wpAnyF_two (i := 3) (j := 5) (by kernel_rfl) rfl rfl (fun K hK => ?_) (fun K hK => ?_)
            · skip
              go_simp
              go_at_call 15
              refine (HM2.out _ HS2.out.bn).mono ?_
              rintro e v3 ⟨gy, cy, rfl, h1, h2, h3, h4⟩
              have HS3 : Hid (St w W v3 n (aProg x) (aProg y) (some gx) (some gy) (some b7) none) := Lib.hid (HS2.out.mk2 HN.out h4 h1 h2 h3)
              refine hK.out _ _ (fun _ => HS3.out.bw) ?_
              clear hK K h1 h2 h3 h4
              try simp only [Act.put, List.setIfInBounds_toArray, List.set_cons_zero, List.set_cons_succ]
              refine wpAnyF_one (i := 5) (by kernel_rfl) rfl (fun K hK => ?_)
              obtain ⟨v4, hv⟩ : ∃ v', v3.alloc (.cells #[.slice none 0 0] 37) = v' := ⟨_, rfl⟩
              obtain ⟨b8, hb⟩ : ∃ b, v3.heap.size = b := ⟨_, rfl⟩
              have HS4 : Hid (St w W v4 n (aProg x) (aProg y) (some gx) (some gy) (some b7) (some b8)) := Lib.hid (by rw [← hv, ← hb]; exact HS3.out.al8 HN.out)
              go_simp
              refine hK.out _ _ (fun _ => HS4.out.bw) ?_
              clear hK K hv hb
              try simp only [Act.put, List.setIfInBounds_toArray, List.set_cons_zero, List.set_cons_succ]
              have e7 := (HS4.out.x7 _ rfl).1.cell
              have f7 := (HS4.out.x7 _ rfl).1.fr
              refine wpAnyF_one (i := 6) (by kernel_rfl) rfl (fun K hK => ?_)
              go_simp
              refine hK.out _ _ (fun _ => HS4.out.bw.setCell (p := ⟨b7, 0, none⟩) (HS4.out.x7 _ rfl).2 _) ?_
              clear hK K e7 f7
              try simp only [Act.put, List.setIfInBounds_toArray, List.set_cons_zero, List.set_cons_succ]
              have e8 : (v4.setCell ⟨b7, 0, none⟩ (.slice (some ⟨gx, 0, none⟩) L cx)).cell? ⟨b8, 0, none⟩ = some (.slice none 0 0) := by rw [World.cell?_setCell_other _ _ _ _ (fun e => by injection e with e1 _; exact HS4.out.ne _ _ rfl rfl e1)]; exact (HS4.out.x8 _ rfl).1.cell
              have f8 : (v4.setCell ⟨b7, 0, none⟩ (.slice (some ⟨gx, 0, none⟩) L cx)).frozen? ⟨b8, 0, none⟩ = false := by rw [World.frozen?_setCell]; exact (HS4.out.x8 _ rfl).1.fr
              refine wpAnyF_one (i := 7) (by kernel_rfl) rfl (fun K hK => ?_)
              go_simp
              refine hK.out _ _ (fun hne => absurd rfl hne) ?_
              clear hK K e8 f8
              try simp only [Act.put, List.setIfInBounds_toArray, List.set_cons_zero, List.set_cons_succ]
              refine wpAnyF_done (by kernel_rfl) ?_ _
              go_wp2_with fail
              go_meet
              exact ⟨b7, b8, gx, gy, cx, cy, rfl, rfl, by rw [← HLX.out, ← HLY.out]; exact HS4.out.two HWS.out, (HS4.out.bw.setCell (p := ⟨b7, 0, none⟩) (HS4.out.x7 _ rfl).2 _).setCell (p := ⟨b8, 0, none⟩) (HS4.out.x8 _ rfl).2 _⟩
            · skip
              obtain ⟨v3, hv⟩ : ∃ v', v2.alloc (.cells #[.slice none 0 0] 37) = v' := ⟨_, rfl⟩
              obtain ⟨b8, hb⟩ : ∃ b, v2.heap.size = b := ⟨_, rfl⟩
              have HS3 : Hid (St w W v3 n (aProg x) (aProg y) (some gx) none (some b7) (some b8)) := Lib.hid (by rw [← hv, ← hb]; exact HS2.out.al8 HN.out)
              go_simp
              refine hK.out _ _ (fun _ => HS3.out.bw) ?_
              clear hK K hv hb
              try simp only [Act.put, List.setIfInBounds_toArray, List.set_cons_zero, List.set_cons_succ]
              refine wpAnyF_one (i := 3) (by kernel_rfl) rfl (fun K hK => ?_)
              go_simp
              go_at_call 15
              refine (HM2.out _ HS3.out.bn).mono ?_
              rintro e v4 ⟨gy, cy, rfl, h1, h2, h3, h4⟩
              have HS4 : Hid (St w W v4 n (aProg x) (aProg y) (some gx) (some gy) (some b7) (some b8)) := Lib.hid (HS3.out.mk2 HN.out h4 h1 h2 h3)
              refine hK.out _ _ (fun _ => HS4.out.bw) ?_
              clear hK K h1 h2 h3 h4
              try simp only [Act.put, List.setIfInBounds_toArray, List.set_cons_zero, List.set_cons_succ]
              have e7 := (HS4.out.x7 _ rfl).1.cell
              have f7 := (HS4.out.x7 _ rfl).1.fr
              refine wpAnyF_one (i := 6) (by kernel_rfl) rfl (fun K hK => ?_)
              go_simp
              refine hK.out _ _ (fun _ => HS4.out.bw.setCell (p := ⟨b7, 0, none⟩) (HS4.out.x7 _ rfl).2 _) ?_
              clear hK K e7 f7
              try simp only [Act.put, List.setIfInBounds_toArray, List.set_cons_zero, List.set_cons_succ]
              have e8 : (v4.setCell ⟨b7, 0, none⟩ (.slice (some ⟨gx, 0, none⟩) L cx)).cell? ⟨b8, 0, none⟩ = some (.slice none 0 0) := by rw [World.cell?_setCell_other _ _ _ _ (fun e => by injection e with e1 _; exact HS4.out.ne _ _ rfl rfl e1)]; exact (HS4.out.x8 _ rfl).1.cell
              have f8 : (v4.setCell ⟨b7, 0, none⟩ (.slice (some ⟨gx, 0, none⟩) L cx)).frozen? ⟨b8, 0, none⟩ = false := by rw [World.frozen?_setCell]; exact (HS4.out.x8 _ rfl).1.fr
              refine wpAnyF_one (i := 7) (by kernel_rfl) rfl (fun K hK => ?_)
              go_simp
              refine hK.out _ _ (fun hne => absurd rfl hne) ?_
              clear hK K e8 f8
              try simp only [Act.put, List.setIfInBounds_toArray, List.set_cons_zero, List.set_cons_succ]
              refine wpAnyF_done (by kernel_rfl) ?_ _
              go_wp2_with fail
              go_meet
              exact ⟨b7, b8, gx, gy, cx, cy, rfl, rfl, by rw [← HLX.out, ← HLY.out]; exact HS4.out.two HWS.out, (HS4.out.bw.setCell (p := ⟨b7, 0, none⟩) (HS4.out.x7 _ rfl).2 _).setCell (p := ⟨b8, 0, none⟩) (HS4.out.x8 _ rfl).2 _⟩
          · skip
            obtain ⟨v2, hv⟩ : ∃ v', v1.alloc (.cells #[.slice none 0 0] 37) = v' := ⟨_, rfl⟩
            obtain ⟨b8, hb⟩ : ∃ b, v1.heap.size = b := ⟨_, rfl⟩
            have HS2 : Hid (St w W v2 n (aProg x) (aProg y) (some gx) none none (some b8)) := Lib.hid (by rw [← hv, ← hb]; exact HS1.out.al8 HN.out)
            go_simp
            refine hK.out _ _ (fun _ => HS2.out.bw) ?_
            clear hK K hv hb
            try simp only [Act.put, List.setIfInBounds_toArray, List.set_cons_zero, List.set_cons_succ]
            refine wpAnyF_two (i := 3) (j := 4) (by kernel_rfl) rfl rfl (fun K hK => ?_) (fun K hK => ?_)
            · skip
              go_simp
              go_at_call 15
              refine (HM2.out _ HS2.out.bn).mono ?_
              rintro e v3 ⟨gy, cy, rfl, h1, h2, h3, h4⟩
              have HS3 : Hid (St w W v3 n (aProg x) (aProg y) (some gx) (some gy) none (some b8)) := Lib.hid (HS2.out.mk2 HN.out h4 h1 h2 h3)
              refine hK.out _ _ (fun _ => HS3.out.bw) ?_
              clear hK K h1 h2 h3 h4
              try simp only [Act.put, List.setIfInBounds_toArray, List.set_cons_zero, List.set_cons_succ]
              refine wpAnyF_one (i := 4) (by kernel_rfl) rfl (fun K hK => ?_)
              obtain ⟨v4, hv⟩ : ∃ v', v3.alloc (.cells #[.slice none 0 0] 37) = v' := ⟨_, rfl⟩
              obtain ⟨b7, hb⟩ : ∃ b, v3.heap.size = b := ⟨_, rfl⟩
              have HS4 : Hid (St w W v4 n (aProg x) (aProg y) (some gx) (some gy) (some b7) (some b8)) := Lib.hid (by rw [← hv, ← hb]; exact HS3.out.al7 HN.out)
              go_simp
              refine hK.out _ _ (fun _ => HS4.out.bw) ?_
              clear hK K hv hb
              try simp only [Act.put, List.setIfInBounds_toArray, List.set_cons_zero, List.set_cons_succ]
              have e7 := (HS4.out.x7 _ rfl).1.cell
              have f7 := (HS4.out.x7 _ rfl).1.fr
              refine wpAnyF_one (i := 6) (by kernel_rfl) rfl (fun K hK => ?_)
              go_simp
              refine hK.out _ _ (fun _ => HS4.out.bw.setCell (p := ⟨b7, 0, none⟩) (HS4.out.x7 _ rfl).2 _) ?_
              clear hK K e7 f7
              try simp only [Act.put, List.setIfInBounds_toArray, List.set_cons_zero, List.set_cons_succ]
              have e8 : (v4.setCell ⟨b7, 0, none⟩ (.slice (some ⟨gx, 0, none⟩) L cx)).cell? ⟨b8, 0, none⟩ = some (.slice none 0 0) := by rw [World.cell?_setCell_other _ _ _ _ (fun e => by injection e with e1 _; exact HS4.out.ne _ _ rfl rfl e1)]; exact (HS4.out.x8 _ rfl).1.cell
              have f8 : (v4.setCell ⟨b7, 0, none⟩ (.slice (some ⟨gx, 0, none⟩) L cx)).frozen? ⟨b8, 0, none⟩ = false := by rw [World.frozen?_setCell]; exact (HS4.out.x8 _ rfl).1.fr
              refine wpAnyF_one (i := 7) (by kernel_rfl) rfl (fun K hK => ?_)
              go_simp
              refine hK.out _ _ (fun hne => absurd rfl hne) ?_
              clear hK K e8 f8
              try simp only [Act.put, List.setIfInBounds_toArray, List.set_cons_zero, List.set_cons_succ]
              refine wpAnyF_done (by kernel_rfl) ?_ _
              go_wp2_with fail
              go_meet
              exact ⟨b7, b8, gx, gy, cx, cy, rfl, rfl, by rw [← HLX.out, ← HLY.out]; exact HS4.out.two HWS.out, (HS4.out.bw.setCell (p := ⟨b7, 0, none⟩) (HS4.out.x7 _ rfl).2 _).setCell (p := ⟨b8, 0, none⟩) (HS4.out.x8 _ rfl).2 _⟩
            · skip
              obtain ⟨v3, hv⟩ : ∃ v', v2.alloc (.cells #[.slice none 0 0] 37) = v' := ⟨_, rfl⟩
              obtain ⟨b7, hb⟩ : ∃ b, v2.heap.size = b := ⟨_, rfl⟩
              have HS3 : Hid (St w W v3 n (aProg x) (aProg y) (some gx) none (some b7) (some b8)) := Lib.hid (by rw [← hv, ← hb]; exact HS2.out.al7 HN.out)
              go_simp
              refine hK.out _ _ (fun _ => HS3.out.bw) ?_
              clear hK K hv hb
              try simp only [Act.put, List.setIfInBounds_toArray, List.set_cons_zero, List.set_cons_succ]
              refine wpAnyF_one (i := 3) (by kernel_rfl) rfl (fun K hK => ?_)
              go_simp
              go_at_call 15
              refine (HM2.out _ HS3.out.bn).mono ?_
              rintro e v4 ⟨gy, cy, rfl, h1, h2, h3, h4⟩
              have HS4 : Hid (St w W v4 n (aProg x) (aProg y) (some gx) (some gy) (some b7) (some b8)) := Lib.hid (HS3.out.mk2 HN.out h4 h1 h2 h3)
              refine hK.out _ _ (fun _ => HS4.out.bw) ?_
              clear hK K h1 h2 h3 h4
              try simp only [Act.put, List.setIfInBounds_toArray, List.set_cons_zero, List.set_cons_succ]
              have e7 := (HS4.out.x7 _ rfl).1.cell
              have f7 := (HS4.out.x7 _ rfl).1.fr
              refine wpAnyF_one (i := 6) (by kernel_rfl) rfl (fun K hK => ?_)
              go_simp
              refine hK.out _ _ (fun _ => HS4.out.bw.setCell (p := ⟨b7, 0, none⟩) (HS4.out.x7 _ rfl).2 _) ?_
              clear hK K e7 f7
              try simp only [Act.put, List.setIfInBounds_toArray, List.set_cons_zero, List.set_cons_succ]
              have e8 : (v4.setCell ⟨b7, 0, none⟩ (.slice (some ⟨gx, 0, none⟩) L cx)).cell? ⟨b8, 0, none⟩ = some (.slice none 0 0) := by rw [World.cell?_setCell_other _ _ _ _ (fun e => by injection e with e1 _; exact HS4.out.ne _ _ rfl rfl e1)]; exact (HS4.out.x8 _ rfl).1.cell
              have f8 : (v4.setCell ⟨b7, 0, none⟩ (.slice (some ⟨gx, 0, none⟩) L cx)).frozen? ⟨b8, 0, none⟩ = false := by rw [World.frozen?_setCell]; exact (HS4.out.x8 _ rfl).1.fr
              refine wpAnyF_one (i := 7) (by kernel_rfl) rfl (fun K hK => ?_)
              go_simp
              refine hK.out _ _ (fun hne => absurd rfl hne) ?_
              clear hK K e8 f8
              try simp only [Act.put, List.setIfInBounds_toArray, List.set_cons_zero, List.set_cons_succ]
              refine wpAnyF_done (by kernel_rfl) ?_ _
              go_wp2_with fail
              go_meet
              exact ⟨b7, b8, gx, gy, cx, cy, rfl, rfl, by rw [← HLX.out, ← HLY.out]; exact HS4.out.two HWS.out, (HS4.out.bw.setCell (p := ⟨b7, 0, none⟩) (HS4.out.x7 _ rfl).2 _).setCell (p := ⟨b8, 0, none⟩) (HS4.out.x8 _ rfl).2 _⟩
        · skip
          obtain ⟨v1, hv⟩ : ∃ v', v0.alloc (.cells #[.slice none 0 0] 37) = v' := ⟨_, rfl⟩
          obtain ⟨b7, hb⟩ : ∃ b, v0.heap.size = b := ⟨_, rfl⟩
          have HS1 : Hid (St w W v1 n (aProg x) (aProg y) none none (some b7) none) := Lib.hid (by rw [← hv, ← hb]; exact HS0.out.al7 HN.out)
          go_simp
          refine hK.out _ _ (fun _ => HS1.out.bw) ?_
          clear hK K hv hb
          try simp only [Act.put, List.setIfInBounds_toArray, List.set_cons_zero, List.set_cons_succ]
          refine wpAnyF_two (i := 1) (j := 5) (by kernel_rfl) rfl rfl (fun K hK => ?_) (fun K hK => ?_)
          · skip
            go_simp
            go_at_call 15
            refine (HM1.out _ HS1.out.bn).mono ?_
            rintro e v2 ⟨gx, cx, rfl, h1, h2, h3, h4⟩
            have HS2 : Hid (St w W v2 n (aProg x) (aProg y) (some gx) none (some b7) none) := Lib.hid (HS1.out.mk1 HN.out h4 h1 h2 h3)
            refine hK.out _ _ (fun _ => HS2.out.bw) ?_
            clear hK K h1 h2 h3 h4
            try simp only [Act.put, List.setIfInBounds_toArray, List.set_cons_zero, List.set_cons_succ]
            refine wpAnyF_two (i := 3) (j := 5) (by kernel_rfl) rfl rfl (fun K hK => ?_) (fun K hK => ?_)
            · skip
              go_simp
              go_at_call 15
              refine (HM2.out _ HS2.out.bn).mono ?_
              rintro e v3 ⟨gy, cy, rfl, h1, h2, h3, h4⟩
              have HS3 : Hid (St w W v3 n (aProg x) (aProg y) (some gx) (some gy) (some b7) none) := Lib.hid (HS2.out.mk2 HN.out h4 h1 h2 h3)
              refine hK.out _ _ (fun _ => HS3.out.bw) ?_
              clear hK K h1 h2 h3 h4
              try simp only [Act.put, List.setIfInBounds_toArray, List.set_cons_zero, List.set_cons_succ]
              refine wpAnyF_one (i := 5) (by kernel_rfl) rfl (fun K hK => ?_)
              obtain ⟨v4, hv⟩ : ∃ v', v3.alloc (.cells #[.slice none 0 0] 37) = v' := ⟨_, rfl⟩
              obtain ⟨b8, hb⟩ : ∃ b, v3.heap.size = b := ⟨_, rfl⟩
              have HS4 : Hid (St w W v4 n (aProg x) (aProg y) (some gx) (some gy) (some b7) (some b8)) := Lib.hid (by rw [← hv, ← hb]; exact HS3.out.al8 HN.out)
              go_simp
              refine hK.out _ _ (fun _ => HS4.out.bw) ?_
              clear hK K hv hb
              try simp only [Act.put, List.setIfInBounds_toArray, List.set_cons_zero, List.set_cons_succ]
              have e7 := (HS4.out.x7 _ rfl).1.cell
              have f7 := (HS4.out.x7 _ rfl).1.fr
              refine wpAnyF_one (i := 6) (by kernel_rfl) rfl (fun K hK => ?_)
              go_simp
              refine hK.out _ _ (fun _ => HS4.out.bw.setCell (p := ⟨b7, 0, none⟩) (HS4.out.x7 _ rfl).2 _) ?_
              clear hK K e7 f7
              try simp only [Act.put, List.setIfInBounds_toArray, List.set_cons_zero, List.set_cons_succ]
              have e8 : (v4.setCell ⟨b7, 0, none⟩ (.slice (some ⟨gx, 0, none⟩) L cx)).cell? ⟨b8, 0, none⟩ = some (.slice none 0 0) := by rw [World.cell?_setCell_other _ _ _ _ (fun e => by injection e with e1 _; exact HS4.out.ne _ _ rfl rfl e1)]; exact (HS4.out.x8 _ rfl).1.cell
              have f8 : (v4.setCell ⟨b7, 0, none⟩ (.slice (some ⟨gx, 0, none⟩) L cx)).frozen? ⟨b8, 0, none⟩ = false := by rw [World.frozen?_setCell]; exact (HS4.out.x8 _ rfl).1.fr
              refine wpAnyF_one (i := 7) (by kernel_rfl) rfl (fun K hK => ?_)
              go_simp
              refine hK.out _ _ (fun hne => absurd rfl hne) ?_
              clear hK K e8 f8
              try simp only [Act.put, List.setIfInBounds_toArray, List.set_cons_zero, List.set_cons_succ]
              refine wpAnyF_done (by kernel_rfl) ?_ _
              go_wp2_with fail
              go_meet
              exact ⟨b7, b8, gx, gy, cx, cy, rfl, rfl, by rw [← HLX.out, ← HLY.out]; exact HS4.out.two HWS.out, (HS4.out.bw.setCell (p := ⟨b7, 0, none⟩) (HS4.out.x7 _ rfl).2 _).setCell (p := ⟨b8, 0, none⟩) (HS4.out.x8 _ rfl).2 _⟩
            · skip
              obtain ⟨v3, hv⟩ : ∃ v', v2.alloc (.cells #[.slice none 0 0] 37) = v' := ⟨_, rfl⟩
              obtain ⟨b8, hb⟩ : ∃ b, v2.heap.size = b := ⟨_, rfl⟩
              have HS3 : Hid (St w W v3 n (aProg x) (aProg y) (some gx) none (some b7) (some b8)) := Lib.hid (by rw [← hv, ← hb]; exact HS2.out.al8 HN.out)
              go_simp
              refine hK.out _ _ (fun _ => HS3.out.bw) ?_
              clear hK K hv hb
              try simp only [Act.put, List.setIfInBounds_toArray, List.set_cons_zero, List.set_cons_succ]
              refine wpAnyF_one (i := 3) (by kernel_rfl) rfl (fun K hK => ?_)
              go_simp
              go_at_call 15
              refine (HM2.out _ HS3.out.bn).mono ?_
              rintro e v4 ⟨gy, cy, rfl, h1, h2, h3, h4⟩
              have HS4 : Hid (St w W v4 n (aProg x) (aProg y) (some gx) (some gy) (some b7) (some b8)) := Lib.hid (HS3.out.mk2 HN.out h4 h1 h2 h3)
              refine hK.out _ _ (fun _ => HS4.out.bw) ?_
              clear hK K h1 h2 h3 h4
              try simp only [Act.put, List.setIfInBounds_toArray, List.set_cons_zero, List.set_cons_succ]
              have e7 := (HS4.out.x7 _ rfl).1.cell
              have f7 := (HS4.out.x7 _ rfl).1.fr
              refine wpAnyF_one (i := 6) (by kernel_rfl) rfl (fun K hK => ?_)
              go_simp
              refine hK.out _ _ (fun _ => HS4.out.bw.setCell (p := ⟨b7, 0, none⟩) (HS4.out.x7 _ rfl).2 _) ?_
              clear hK K e7 f7
              try simp only [Act.put, List.setIfInBounds_toArray, List.set_cons_zero, List.set_cons_succ]
              have e8 : (v4.setCell ⟨b7, 0, none⟩ (.slice (some ⟨gx, 0, none⟩) L cx)).cell? ⟨b8, 0, none⟩ = some (.slice none 0 0) := by rw [World.cell?_setCell_other _ _ _ _ (fun e => by injection e with e1 _; exact HS4.out.ne _ _ rfl rfl e1)]; exact (HS4.out.x8 _ rfl).1.cell
              have f8 : (v4.setCell ⟨b7, 0, none⟩ (.slice (some ⟨gx, 0, none⟩) L cx)).frozen? ⟨b8, 0, none⟩ = false := by rw [World.frozen?_setCell]; exact (HS4.out.x8 _ rfl).1.fr
              refine wpAnyF_one (i := 7) (by kernel_rfl) rfl (fun K hK => ?_)
              go_simp
              refine hK.out _ _ (fun hne => absurd rfl hne) ?_
              clear hK K e8 f8
              try simp only [Act.put, List.setIfInBounds_toArray, List.set_cons_zero, List.set_cons_succ]
              refine wpAnyF_done (by kernel_rfl) ?_ _
              go_wp2_with fail
              go_meet
              exact ⟨b7, b8, gx, gy, cx, cy, rfl, rfl, by rw [← HLX.out, ← HLY.out]; exact HS4.out.two HWS.out, (HS4.out.bw.setCell (p := ⟨b7, 0, none⟩) (HS4.out.x7 _ rfl).2 _).setCell (p := ⟨b8, 0, none⟩) (HS4.out.x8 _ rfl).2 _⟩
          · skip
            obtain ⟨v2, hv⟩ : ∃ v', v1.alloc (.cells #[.slice none 0 0] 37) = v' := ⟨_, rfl⟩
            obtain ⟨b8, hb⟩ : ∃ b, v1.heap.size = b := ⟨_, rfl⟩
            have HS2 : Hid (St w W v2 n (aProg x) (aProg y) none none (some b7) (some b8)) := Lib.hid (by rw [← hv, ← hb]; exact HS1.out.al8 HN.out)
            go_simp
            refine hK.out _ _ (fun _ => HS2.out.bw) ?_
            clear hK K hv hb
            try simp only [Act.put, List.setIfInBounds_toArray, List.set_cons_zero, List.set_cons_succ]
            refine wpAnyF_one (i := 1) (by kernel_rfl) rfl (fun K hK => ?_)
            go_simp
            go_at_call 15
            refine (HM1.out _ HS2.out.bn).mono ?_
            rintro e v3 ⟨gx, cx, rfl, h1, h2, h3, h4⟩
            have HS3 : Hid (St w W v3 n (aProg x) (aProg y) (some gx) none (some b7) (some b8)) := Lib.hid (HS2.out.mk1 HN.out h4 h1 h2 h3)
            refine hK.out _ _ (fun _ => HS3.out.bw) ?_
            clear hK K h1 h2 h3 h4
            try simp only [Act.put, List.setIfInBounds_toArray, List.set_cons_zero, List.set_cons_succ]
            refine wpAnyF_one (i := 3) (by kernel_rfl) rfl (fun K hK => ?_)
            go_simp
            go_at_call 15
            refine (HM2.out _ HS3.out.bn).mono ?_
            rintro e v4 ⟨gy, cy, rfl, h1, h2, h3, h4⟩
            have HS4 : Hid (St w W v4 n (aProg x) (aProg y) (some gx) (some gy) (some b7) (some b8)) := Lib.hid (HS3.out.mk2 HN.out h4 h1 h2 h3)
            refine hK.out _ _ (fun _ => HS4.out.bw) ?_
            clear hK K h1 h2 h3 h4
            try simp only [Act.put, List.setIfInBounds_toArray, List.set_cons_zero, List.set_cons_succ]
            have e7 := (HS4.out.x7 _ rfl).1.cell
            have f7 := (HS4.out.x7 _ rfl).1.fr
            refine wpAnyF_one (i := 6) (by kernel_rfl) rfl (fun K hK => ?_)
            go_simp
            refine hK.out _ _ (fun _ => HS4.out.bw.setCell (p := ⟨b7, 0, none⟩) (HS4.out.x7 _ rfl).2 _) ?_
            clear hK K e7 f7
            try simp only [Act.put, List.setIfInBounds_toArray, List.set_cons_zero, List.set_cons_succ]
            have e8 : (v4.setCell ⟨b7, 0, none⟩ (.slice (some ⟨gx, 0, none⟩) L cx)).cell? ⟨b8, 0, none⟩ = some (.slice none 0 0) := by rw [World.cell?_setCell_other _ _ _ _ (fun e => by injection e with e1 _; exact HS4.out.ne _ _ rfl rfl e1)]; exact (HS4.out.x8 _ rfl).1.cell
            have f8 : (v4.setCell ⟨b7, 0, none⟩ (.slice (some ⟨gx, 0, none⟩) L cx)).frozen? ⟨b8, 0, none⟩ = false := by rw [World.frozen?_setCell]; exact (HS4.out.x8 _ rfl).1.fr
            refine wpAnyF_one (i := 7) (by kernel_rfl) rfl (fun K hK => ?_)
            go_simp
            refine hK.out _ _ (fun hne => absurd rfl hne) ?_
            clear hK K e8 f8
            try simp only [Act.put, List.setIfInBounds_toArray, List.set_cons_zero, List.set_cons_succ]
            refine wpAnyF_done (by kernel_rfl) ?_ _
            go_wp2_with fail
            go_meet
            exact ⟨b7, b8, gx, gy, cx, cy, rfl, rfl, by rw [← HLX.out, ← HLY.out]; exact HS4.out.two HWS.out, (HS4.out.bw.setCell (p := ⟨b7, 0, none⟩) (HS4.out.x7 _ rfl).2 _).setCell (p := ⟨b8, 0, none⟩) (HS4.out.x8 _ rfl).2 _⟩
        · skip
          obtain ⟨v1, hv⟩ : ∃ v', v0.alloc (.cells #[.slice none 0 0] 37) = v' := ⟨_, rfl⟩
          obtain ⟨b8, hb⟩ : ∃ b, v0.heap.size = b := ⟨_, rfl⟩
          have HS1 : Hid (St w W v1 n (aProg x) (aProg y) none none none (some b8)) := Lib.hid (by rw [← hv, ← hb]; exact HS0.out.al8 HN.out)
          go_simp
          refine hK.out _ _ (fun _ => HS1.out.bw) ?_
          clear hK K hv hb
          try simp only [Act.put, List.setIfInBounds_toArray, List.set_cons_zero, List.set_cons_succ]
          refine wpAnyF_two (i := 1) (j := 4) (by kernel_rfl) rfl rfl (fun K hK => ?_) (fun K hK => ?_)
          · skip
            go_simp
            go_at_call 15
            refine (HM1.out _ HS1.out.bn).mono ?_
            rintro e v2 ⟨gx, cx, rfl, h1, h2, h3, h4⟩
            have HS2 : Hid (St w W v2 n (aProg x) (aProg y) (some gx) none none (some b8)) := Lib.hid (HS1.out.mk1 HN.out h4 h1 h2 h3)
            refine hK.out _ _ (fun _ => HS2.out.bw) ?_
            clear hK K h1 h2 h3 h4
            try simp only [Act.put, List.setIfInBounds_toArray, List.set_cons_zero, List.set_cons_succ]
            refine wpAnyF_two (i := 3) (j := 4) (by kernel_rfl) rfl rfl (fun K hK => ?_) (fun K hK => ?_)
            · skip
              go_simp
              go_at_call 15
              refine (HM2.out _ HS2.out.bn).mono ?_
              rintro e v3 ⟨gy, cy, rfl, h1, h2, h3, h4⟩
              have HS3 : Hid (St w W v3 n (aProg x) (aProg y) (some gx) (some gy) none (some b8)) := Lib.hid (HS2.out.mk2 HN.out h4 h1 h2 h3)
              refine hK.out _ _ (fun _ => HS3.out.bw) ?_
              clear hK K h1 h2 h3 h4
              try simp only [Act.put, List.setIfInBounds_toArray, List.set_cons_zero, List.set_cons_succ]
              refine wpAnyF_one (i := 4) (by kernel_rfl) rfl (fun K hK => ?_)
              obtain ⟨v4, hv⟩ : ∃ v', v3.alloc (.cells #[.slice none 0 0] 37) = v' := ⟨_, rfl⟩
              obtain ⟨b7, hb⟩ : ∃ b, v3.heap.size = b := ⟨_, rfl⟩
              have HS4 : Hid (St w W v4 n (aProg x) (aProg y) (some gx) (some gy) (some b7) (some b8)) := Lib.hid (by rw [← hv, ← hb]; exact HS3.out.al7 HN.out)
              go_simp
              refine hK.out _ _ (fun _ => HS4.out.bw) ?_
              clear hK K hv hb
              try simp only [Act.put, List.setIfInBounds_toArray, List.set_cons_zero, List.set_cons_succ]
              have e7 := (HS4.out.x7 _ rfl).1.cell
              have f7 := (HS4.out.x7 _ rfl).1.fr
              refine wpAnyF_one (i := 6) (by kernel_rfl) rfl (fun K hK => ?_)
              go_simp
              refine hK.out _ _ (fun _ => HS4.out.bw.setCell (p := ⟨b7, 0, none⟩) (HS4.out.x7 _ rfl).2 _) ?_
              clear hK K e7 f7
              try simp only [Act.put, List.setIfInBounds_toArray, List.set_cons_zero, List.set_cons_succ]
              have e8 : (v4.setCell ⟨b7, 0, none⟩ (.slice (some ⟨gx, 0, none⟩) L cx)).cell? ⟨b8, 0, none⟩ = some (.slice none 0 0) := by rw [World.cell?_setCell_other _ _ _ _ (fun e => by injection e with e1 _; exact HS4.out.ne _ _ rfl rfl e1)]; exact (HS4.out.x8 _ rfl).1.cell
              have f8 : (v4.setCell ⟨b7, 0, none⟩ (.slice (some ⟨gx, 0, none⟩) L cx)).frozen? ⟨b8, 0, none⟩ = false := by rw [World.frozen?_setCell]; exact (HS4.out.x8 _ rfl).1.fr
              refine wpAnyF_one (i := 7) (by kernel_rfl) rfl (fun K hK => ?_)
              go_simp
              refine hK.out _ _ (fun hne => absurd rfl hne) ?_
              clear hK K e8 f8
              try simp only [Act.put, List.setIfInBounds_toArray, List.set_cons_zero, List.set_cons_succ]
              refine wpAnyF_done (by kernel_rfl) ?_ _
              go_wp2_with fail
              go_meet
              exact ⟨b7, b8, gx, gy, cx, cy, rfl, rfl, by rw [← HLX.out, ← HLY.out]; exact HS4.out.two HWS.out, (HS4.out.bw.setCell (p := ⟨b7, 0, none⟩) (HS4.out.x7 _ rfl).2 _).setCell (p := ⟨b8, 0, none⟩) (HS4.out.x8 _ rfl).2 _⟩
            · skip
              obtain ⟨v3, hv⟩ : ∃ v', v2.alloc (.cells #[.slice none 0 0] 37) = v' := ⟨_, rfl⟩
              obtain ⟨b7, hb⟩ : ∃ b, v2.heap.size = b := ⟨_, rfl⟩
              have HS3 : Hid (St w W v3 n (aProg x) (aProg y) (some gx) none (some b7) (some b8)) := Lib.hid (by rw [← hv, ← hb]; exact HS2.out.al7 HN.out)
              go_simp
              refine hK.out _ _ (fun _ => HS3.out.bw) ?_
              clear hK K hv hb
              try simp only [Act.put, List.setIfInBounds_toArray, List.set_cons_zero, List.set_cons_succ]
              refine wpAnyF_one (i := 3) (by kernel_rfl) rfl (fun K hK => ?_)
              go_simp
              go_at_call 15
              refine (HM2.out _ HS3.out.bn).mono ?_
              rintro e v4 ⟨gy, cy, rfl, h1, h2, h3, h4⟩
              have HS4 : Hid (St w W v4 n (aProg x) (aProg y) (some gx) (some gy) (some b7) (some b8)) := Lib.hid (HS3.out.mk2 HN.out h4 h1 h2 h3)
              refine hK.out _ _ (fun _ => HS4.out.bw) ?_
              clear hK K h1 h2 h3 h4
              try simp only [Act.put, List.setIfInBounds_toArray, List.set_cons_zero, List.set_cons_succ]
              have e7 := (HS4.out.x7 _ rfl).1.cell
              have f7 := (HS4.out.x7 _ rfl).1.fr
              refine wpAnyF_one (i := 6) (by kernel_rfl) rfl (fun K hK => ?_)
              go_simp
              refine hK.out _ _ (fun _ => HS4.out.bw.setCell (p := ⟨b7, 0, none⟩) (HS4.out.x7 _ rfl).2 _) ?_
              clear hK K e7 f7
              try simp only [Act.put, List.setIfInBounds_toArray, List.set_cons_zero, List.set_cons_succ]
              have e8 : (v4.setCell ⟨b7, 0, none⟩ (.slice (some ⟨gx, 0, none⟩) L cx)).cell? ⟨b8, 0, none⟩ = some (.slice none 0 0) := by rw [World.cell?_setCell_other _ _ _ _ (fun e => by injection e with e1 _; exact HS4.out.ne _ _ rfl rfl e1)]; exact (HS4.out.x8 _ rfl).1.cell
              have f8 : (v4.setCell ⟨b7, 0, none⟩ (.slice (some ⟨gx, 0, none⟩) L cx)).frozen? ⟨b8, 0, none⟩ = false := by rw [World.frozen?_setCell]; exact (HS4.out.x8 _ rfl).1.fr
              refine wpAnyF_one (i := 7) (by kernel_rfl) rfl (fun K hK => ?_)
              go_simp
              refine hK.out _ _ (fun hne => absurd rfl hne) ?_
              clear hK K e8 f8
              try simp only [Act.put, List.setIfInBounds_toArray, List.set_cons_zero, List.set_cons_succ]
              refine wpAnyF_done (by kernel_rfl) ?_ _
              go_wp2_with fail
              go_meet
              exact ⟨b7, b8, gx, gy, cx, cy, rfl, rfl, by rw [← HLX.out, ← HLY.out]; exact HS4.out.two HWS.out, (HS4.out.bw.setCell (p := ⟨b7, 0, none⟩) (HS4.out.x7 _ rfl).2 _).setCell (p := ⟨b8, 0, none⟩) (HS4.out.x8 _ rfl).2 _⟩
          · skip
            obtain ⟨v2, hv⟩ : ∃ v', v1.alloc (.cells #[.slice none 0 0] 37) = v' := ⟨_, rfl⟩
            obtain ⟨b7, hb⟩ : ∃ b, v1.heap.size = b := ⟨_, rfl⟩
            have HS2 : Hid (St w W v2 n (aProg x) (aProg y) none none (some b7) (some b8)) := Lib.hid (by rw [← hv, ← hb]; exact HS1.out.al7 HN.out)
            go_simp
            refine hK.out _ _ (fun _ => HS2.out.bw) ?_
            clear hK K hv hb
            try simp only [Act.put, List.setIfInBounds_toArray, List.set_cons_zero, List.set_cons_succ]
            refine wpAnyF_one (i := 1) (by kernel_rfl) rfl (fun K hK => ?_)
            go_simp
            go_at_call 15
            refine (HM1.out _ HS2.out.bn).mono ?_
            rintro e v3 ⟨gx, cx, rfl, h1, h2, h3, h4⟩
            have HS3 : Hid (St w W v3 n (aProg x) (aProg y) (some gx) none (some b7) (some b8)) := Lib.hid (HS2.out.mk1 HN.out h4 h1 h2 h3)
            refine hK.out _ _ (fun _ => HS3.out.bw) ?_
            clear hK K h1 h2 h3 h4
            try simp only [Act.put, List.setIfInBounds_toArray, List.set_cons_zero, List.set_cons_succ]
            refine wpAnyF_one (i := 3) (by kernel_rfl) rfl (fun K hK => ?_)
            go_simp
            go_at_call 15
            refine (HM2.out _ HS3.out.bn).mono ?_
            rintro e v4 ⟨gy, cy, rfl, h1, h2, h3, h4⟩
            have HS4 : Hid (St w W v4 n (aProg x) (aProg y) (some gx) (some gy) (some b7) (some b8)) := Lib.hid (HS3.out.mk2 HN.out h4 h1 h2 h3)
            refine hK.out _ _ (fun _ => HS4.out.bw) ?_
            clear hK K h1 h2 h3 h4
            try simp only [Act.put, List.setIfInBounds_toArray, List.set_cons_zero, List.set_cons_succ]
            have e7 := (HS4.out.x7 _ rfl).1.cell
            have f7 := (HS4.out.x7 _ rfl).1.fr
            refine wpAnyF_one (i := 6) (by kernel_rfl) rfl (fun K hK => ?_)
            go_simp
            refine hK.out _ _ (fun _ => HS4.out.bw.setCell (p := ⟨b7, 0, none⟩) (HS4.out.x7 _ rfl).2 _) ?_
            clear hK K e7 f7
            try simp only [Act.put, List.setIfInBounds_toArray, List.set_cons_zero, List.set_cons_succ]
            have e8 : (v4.setCell ⟨b7, 0, none⟩ (.slice (some ⟨gx, 0, none⟩) L cx)).cell? ⟨b8, 0, none⟩ = some (.slice none 0 0) := by rw [World.cell?_setCell_other _ _ _ _ (fun e => by injection e with e1 _; exact HS4.out.ne _ _ rfl rfl e1)]; exact (HS4.out.x8 _ rfl).1.cell
            have f8 : (v4.setCell ⟨b7, 0, none⟩ (.slice (some ⟨gx, 0, none⟩) L cx)).frozen? ⟨b8, 0, none⟩ = false := by rw [World.frozen?_setCell]; exact (HS4.out.x8 _ rfl).1.fr
            refine wpAnyF_one (i := 7) (by kernel_rfl) rfl (fun K hK => ?_)
            go_simp
            refine hK.out _ _ (fun hne => absurd rfl hne) ?_
            clear hK K e8 f8
            try simp only [Act.put, List.setIfInBounds_toArray, List.set_cons_zero, List.set_cons_succ]
            refine wpAnyF_done (by kernel_rfl) ?_ _
            go_wp2_with fail
            go_meet
            exact ⟨b7, b8, gx, gy, cx, cy, rfl, rfl, by rw [← HLX.out, ← HLY.out]; exact HS4.out.two HWS.out, (HS4.out.bw.setCell (p := ⟨b7, 0, none⟩) (HS4.out.x7 _ rfl).2 _).setCell (p := ⟨b8, 0, none⟩) (HS4.out.x8 _ rfl).2 _⟩
      case rest =>
        obtain ⟨b7, b8, ga, gb, ca, cb, rfl, rfl, hT, hbc⟩ := hcut
        have HT := Lib.hid hT
        have HBC := Lib.hid hbc
        clear hT hbc HM1 HM2
        go_upto_if 26 with fail
        go_cut [26] (fun _ wx => ∃ m gb cb, (m = aProg x ∨ m = aProg y) ∧ Two w wx n (aProg x) m b7 b8 ga gb ca cb)
        case first =>
          by_cases hev : u % 2 = 0
          · have he1 : ((u : Int) % 2 == 0) = true := by rw [beq_iff_eq]; omega
            have he2 : (u : Int) % 2 = 0 := by omega
            have hq := HX7.out _ HBC.out
            unfold X14 at hq
            obtain ⟨⟨c0, c1, c2, c3, c4, c5, c6⟩, _⟩ := hq
            go_wp2_with (go_at_call 15; refine Hid.out ?_)
            refine Lib.hid ?_
            refine (HMQ.out _ HT.out.bel).mono ?_
            rintro e w6 ⟨gq, cq, rfl, hq0, hq1, ⟨hqd, hqf⟩, hb6⟩
            have l8 : b8 < wc.heap.size := (Array.getElem?_eq_some_iff.1 HT.out.p8).1
            have q8 : w6.cell? ⟨b8, 0, none⟩ = some (.slice (some ⟨gb, 0, none⟩) (aProg y).length cb) := by
              rw [hb6.cell (p := ⟨b8, 0, none⟩) l8, cell_of_row wc b8 0 _ 37 (0, 0) HT.out.p8]; rfl
            have f8 : w6.frozen? ⟨b8, 0, none⟩ = false := by
              rw [hb6.frozen (p := ⟨b8, 0, none⟩) l8]
              have := HT.out.p8
              unfold World.frozen?
              simp only [this]
              simp
            have HT3 := Lib.hid (Tw3.of (cq := cq) HT.out (by have := HT.out.bel.size; have := HN.out; omega) hq0 hq1 hqd hqf hb6)
            rw [HLX.out] at HT3
            clear hqd hqf hb6 c0 c1 c2 c3 c4 c5 c6 hq0 hq1
            obtain ⟨B, hB⟩ : ∃ B, wc.heap.size = B := ⟨_, rfl⟩
            rw [hB] at HT3
            have hL15 : L ≤ 15 := by rw [← HLX.out]; exact HXL.out.2.2
            clear hB l8
            go_wp2_with fail
            clear q8 f8 he1 he2
            go_loopw [32] (fun i wr => ∃ j : Nat, j ≤ L ∧ i = .int .i64 (j : Int) ∧ Tw3 w wr n (aProg x) b7 b8 ga gq ca cq B) (fun i _ => L - (intOf i).toNat)
            case atStart => exact ⟨0, Nat.zero_le _, rfl, HT3.out⟩
            case round =>
              obtain ⟨j, hj, rfl, hTr⟩ := hrel
              have HTR := Lib.hid hTr
              clear hTr
              by_cases hlt : j < L
              · have hlp : j < (aProg x).length := by rw [HLX.out]; exact hlt
                obtain ⟨dd, hdd⟩ : ∃ dd, (aProg x)[j]? = some dd := ⟨_, List.getElem?_eq_getElem hlp⟩
                obtain ⟨pj, cj, aj, ⟨_, _, _, _, k4⟩, _⟩ := HTR.out.dm j dd hdd
                have y8 : wr.cell? ⟨b8, 0, none⟩ = some (.slice (some ⟨gq, 0, none⟩) L cq) := by
                  rw [cell_of_row wr b8 0 _ 37 (0, 0) HTR.out.p8, HLX.out]; rfl
                have hfz := HTR.out.fz (j * 5 + 4)
                have hqs := HTR.out.qs
                clear hdd
                go_wp2
                go_roundw
                case rel => exact ⟨j + 1, by omega, by go_num, HTR.out.set hlp _⟩
                case measure => simp [intOf]; omega
              · obtain rfl : j = L := by omega
                go_wp2_with fail
                go_meet
                exact ⟨aProg x, gq, cq, .inl rfl, HTR.out.two⟩
          · have he1 : ((u : Int) % 2 == 0) = false := by rw [beq_eq_false_iff_ne]; omega
            have he2 : ¬ (u : Int) % 2 = 0 := by omega
            go_wp2_with fail
            go_meet
            exact ⟨aProg y, gb, cb, .inr rfl, HT.out⟩
        case rest =>
          obtain ⟨m, gb, cb, hm, hT2⟩ := hcut
          obtain ⟨t, T1, T2, hS1, hS2, hX1, hX2, htt⟩ := hT2.calls HL.out HN.out h7 HRX.out (by rcases hm with rfl | rfl <;> first | exact HRX.out | exact HRY.out) HVX.out (by rcases hm with rfl | rfl <;> first | exact HVX.out | exact HVY.out) HXL.out (by rcases hm with rfl | rfl <;> first | exact HXL.out | exact HYL.out)
          obtain ⟨K, hK⟩ : ∃ K, m.length = K := ⟨_, rfl⟩
          rw [hK, HLX.out] at hS1 hS2
          rw [HLX.out] at hX1
          rw [hK] at hX2
          have HS1 := Lib.hid hS1
          have HS2 := Lib.hid hS2
          have HX1 := Lib.hid hX1
          have HX2 := Lib.hid hX2
          have HFI : Hid (∀ w', Below wc.heap.size wc w' → Below w.heap.size w w') := Lib.hid (fun w' hb => by rw [HN.out]; exact hT2.bel.trans (hb.mono (by have := hT2.bel.size; have := HN.out; omega)))
          have HC : Hid (∀ w', Below wc.heap.size wc w' → w'.cell? ⟨b7, 0, none⟩ = some (.slice (some ⟨ga, 0, none⟩) L ca) ∧ w'.cell? ⟨b8, 0, none⟩ = some (.slice (some ⟨gb, 0, none⟩) K cb)) := Lib.hid (fun w' hb => by
            have l7 : b7 < wc.heap.size := (Array.getElem?_eq_some_iff.1 hT2.p7).1
            have l8 : b8 < wc.heap.size := (Array.getElem?_eq_some_iff.1 hT2.p8).1
            refine ⟨?_, ?_⟩
            · rw [hb.cell (p := ⟨b7, 0, none⟩) l7, cell_of_row wc b7 0 _ 37 (0, 0) hT2.p7, HLX.out]; rfl
            · rw [hb.cell (p := ⟨b8, 0, none⟩) l8, cell_of_row wc b8 0 _ 37 (0, 0) hT2.p8, hK]; rfl)
          have hb0 : Below wc.heap.size wc wc.drew := by
            have h0 := Below.refl wc.heap.size wc
            exact ⟨h0.os, h0.tape, h0.output, h0.size, h0.block⟩
          have hs := HC.out _ hb0
          clear hS1 hS2 hX1 hX2 hK hT2 hm
          cases t with
          | true =>
            go_wp2
            go_region_held3 (fun w' => w'.cell? ⟨b7, 0, none⟩ = some (.slice (some ⟨ga, 0, none⟩) L ca) ∧ w'.cell? ⟨b8, 0, none⟩ = some (.slice (some ⟨gb, 0, none⟩) K cb)) (first | exact hs | assumption)
              (first | (go_at_call 17; with_reducible refine (HS1.out _ (by assumption)).mono ?_; rintro e w4 ⟨rfl, hb0⟩; have hs := HC.out _ hb0) | (go_at_call 17; with_reducible refine (HS2.out _ (by assumption)).mono ?_; rintro e w4 ⟨rfl, hb0⟩; have hs := HC.out _ hb0) | (go_at_call 16; with_reducible refine (HX1.out _ (by assumption)).mono ?_; rintro e w4 ⟨rfl, hb0⟩; have hs := HC.out _ hb0) | (go_at_call 16; with_reducible refine (HX2.out _ (by assumption)).mono ?_; rintro e w4 ⟨rfl, hb0⟩; have hs := HC.out _ hb0))
            all_goals go_wp2
            all_goals refine bodyPost_ret (v := .bool true) (by simp [results, Tryd.results5, go_sem]) rfl ⟨rfl, HFI.out _ (by assumption)⟩
          | false =>
            go_wp2
            go_region_held3 (fun w' => w'.cell? ⟨b7, 0, none⟩ = some (.slice (some ⟨ga, 0, none⟩) L ca) ∧ w'.cell? ⟨b8, 0, none⟩ = some (.slice (some ⟨gb, 0, none⟩) K cb)) (first | exact hs | assumption)
              (first | (go_at_call 17; with_reducible refine (HS1.out _ (by assumption)).mono ?_; rintro e w4 ⟨rfl, hb0⟩; have hs := HC.out _ hb0) | (go_at_call 17; with_reducible refine (HS2.out _ (by assumption)).mono ?_; rintro e w4 ⟨rfl, hb0⟩; have hs := HC.out _ hb0) | (go_at_call 16; with_reducible refine (HX1.out _ (by assumption)).mono ?_; rintro e w4 ⟨rfl, hb0⟩; have hs := HC.out _ hb0) | (go_at_call 16; with_reducible refine (HX2.out _ (by assumption)).mono ?_; rintro e w4 ⟨rfl, hb0⟩; have hs := HC.out _ hb0))
            all_goals go_wp2
            all_goals refine bodyPost_ret (v := .bool true) (by simp [results, Tryd.results5, go_sem]) rfl ⟨rfl, HFI.out _ (by assumption)⟩
end Go.Proofs.YtmomdcnlhljhcaaDoor
