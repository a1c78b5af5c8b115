/- The law's own text of a statement. -/
import Derived.Test.YtmomdcnlhljhcaaDoorRb
import Derived.Test.YtmomdcnlhljhcaaDoorSf
import Derived.Test.YtmomdcnlhljhcaaDoorEp
import Derived.Test.YtmomdcnlhljhcaaDoorBd
import Derived.BigQuiet
import Derived.Deep.QuietTactic
set_option linter.unusedSimpArgs false
set_option linter.unusedVariables false
namespace Go.Proofs.YtmomdcnlhljhcaaDoor
open Go.RowKit Ieee

theorem s_info : (Tryd.prog.info? 9).map (fun i => (i.zero, i.size, i.bytes)) = some (some (.string ⟨#[]⟩), 1, 16) := by kernel_rfl
theorem s_one (s : ByteArray) : ∀ u ∈ [Value.string s], u.oneCell' = true := by
  intro u hu
  simp only [List.mem_cons, List.not_mem_nil, or_false] at hu
  subst hu; rfl
def sv (x : Ex) : Value := .string ⟨(ext x).toArray⟩
/-- What holds at the loop's head: some expressions are told. -/
structure Xin (xs : List Ex) (W wr : World) (v : Value) (j : Nat) : Prop where
  bel : Below W.heap.size W wr
  own : wr.ownsRow W.heap.size 9 1 v j ((xs.take j).map sv)
theorem xin_form {xs : List Ex} {W wr : World} {v : Value} {j : Nat} (h : Xin xs W wr v j) (hj : j = xs.length) : (v = .slice none 0 0 ∧ xs = []) ∨ ∃ g cap, v = .slice (some ⟨g, 0, none⟩) xs.length cap ∧ g < wr.heap.size ∧ xs.length ≤ cap ∧ cap ≤ maxLen ∧ ∀ i x, xs[i]? = some x → wr.cell? ⟨g, i, none⟩ = some (sv x) := by
  subst hj
  have ho := h.own
  rw [List.take_length] at ho
  rcases ho.2 with ⟨h1, h2⟩ | ⟨g, cap, cur, rfl, h1, h2, h3, h4, h5, h6⟩
  · exact .inl ⟨h1, List.length_eq_zero_iff.1 h2⟩
  · refine .inr ⟨g, cap, rfl, (ho.lt g rfl).2, h3, h4, fun i x hx => ?_⟩
    have hi : i < xs.length := (List.getElem?_eq_some_iff.1 hx).1
    rw [ho.cellAt i (by omega), List.getElem?_map, hx]
    rfl


/-- A list without its first: the address under one name. -/
theorem tail24 (g ln cap : Nat) (h1 : 1 ≤ ln) (hc : ln ≤ cap) : ∃ X, (∀ W : World, (Instr.slice 24 (.slice (some ⟨g, 0, none⟩) ln cap) (some (.int .i64 1)) none none).run Tryd.prog W = .ok (.slice X (ln - 1) (cap - 1)) W) ∧ (2 ≤ ln → X = some ⟨g, 1, none⟩) := by
  refine ⟨if cap = 1 then some ⟨g, 0, none⟩ else some ⟨g, 1, none⟩, fun W => ?_, fun h => if_neg (by omega)⟩
  have h2 : (1 : Int) ≤ (ln : Int) := by omega
  have h3 : (1 : Int) ≤ (cap : Int) := by omega
  go_simp
theorem below_drewN {B : Nat} {w w' : World} (h : Below B w w') (n : Nat) : Below B w (w'.drewN n) := ⟨h.os, h.tape, h.output, h.size, h.block⟩

set_option maxRecDepth 100000 in
set_option maxHeartbeats 6400000 in
theorem stmt_false (k : Nat) (rg nm : List UInt8) (xs : List Ex) (b e : Sts) (hwh : Wh k rg nm false xs) (hrb : RbOk b) (hre : RbOk e) : StOk k rg nm false xs b e := by
  intro px cx pb cb pe ce w hl hx hb he hlen
  have hst := store_cx
  have HL := Lib.hid hl
  have HX := Lib.hid hx
  have HBV := Lib.hid hb
  have HEV := Lib.hid he
  have HLEN := Lib.hid hlen
  have HWH := Lib.hid hwh
  have HRB := Lib.hid hrb
  have HRE := Lib.hid hre
  have hkd := hwh.kd
  have hxl := hwh.xlen
  obtain ⟨i0, hi, hz0, hz1, hz2⟩ := info_parts s_info
  have HI := Lib.hid hi
  have HZ0 := Lib.hid hz0
  have HZ1 := Lib.hid hz1
  have HZ2 := Lib.hid hz2
  obtain ⟨n, hn⟩ : ∃ n, w.heap.size = n := ⟨_, rfl⟩
  have HN := Lib.hid hn
  obtain ⟨ln, hln⟩ : ∃ ln, xs.length = ln := ⟨_, rfl⟩
  have HLN := Lib.hid hln
  obtain ⟨W, hW⟩ : ∃ W, w.alloc (.cells #[.int .i64 (k : Int), .string ⟨rg.toArray⟩, .string ⟨nm.toArray⟩, .bool false, .slice px xs.length cx, .slice pb b.len cb, .slice pe e.len ce, .int .i64 0] 87) = W := ⟨_, rfl⟩
  have hWb : Below w.heap.size w W := by rw [← hW]; exact below_alloc _ _
  have hWn : W.heap.size = n + 1 := by rw [← hW, ← hn]; simp
  have HWn := Lib.hid hWn
  have HWB := Lib.hid hWb
  have b0 : W.cell? ⟨n, 0, none⟩ = some (.int .i64 (k : Int)) := by rw [← hW, ← hn]; simp [go_sem]
  have b1 : W.cell? ⟨n, 1, none⟩ = some (.string ⟨rg.toArray⟩) := by rw [← hW, ← hn]; simp [go_sem]
  have b2 : W.cell? ⟨n, 2, none⟩ = some (.string ⟨nm.toArray⟩) := by rw [← hW, ← hn]; simp [go_sem]
  have b3 : W.cell? ⟨n, 3, none⟩ = some (.bool false) := by rw [← hW, ← hn]; simp [go_sem]
  have b4 : W.cell? ⟨n, 4, none⟩ = some (.slice px ln cx) := by rw [← hW, ← hn, hln]; simp [go_sem]
  have b5 : W.cell? ⟨n, 5, none⟩ = some (.slice pb b.len cb) := by rw [← hW, ← hn]; simp [go_sem]
  have b6 : W.cell? ⟨n, 6, none⟩ = some (.slice pe e.len ce) := by rw [← hW, ← hn]; simp [go_sem]
  have HX0 : Hid (Xin xs W W (.slice none 0 0) 0) := Lib.hid ⟨Below.refl _ _, World.ownsRow_nil _ _ _ _⟩
  rw [hln] at hxl
  clear hl hx hb he hlen hwh hrb hre hi hz0 hz1 hz2 hWb hWn
  unfold stv
  rw [hln] at hW ⊢
  clear hln
  go_enter Tryd.func42, Tryd.ntmps42
  go_wp2
  clear hW hn
  go_loopw [3, 13] (fun v i wr => ∃ j : Nat, j ≤ ln ∧ i = .int .i64 (j : Int) ∧ Xin xs W wr v j) (fun _ i _ => ln - (intOf i).toNat)
  case atStart => exact ⟨0, Nat.zero_le _, rfl, HX0.out⟩
  case round =>
    obtain ⟨j, hj, rfl, hXn⟩ := hrel
    have HXN := Lib.hid hXn
    clear hXn
    by_cases hlt : j < ln
    · obtain ⟨x, hx⟩ : ∃ x, xs[j]? = some x := ⟨xs[j]'(by rw [HLN.out]; exact hlt), List.getElem?_eq_getElem _⟩
      have hmem : x ∈ xs := List.mem_of_getElem? hx
      rcases HX.out with ⟨h, _⟩ | ⟨gx, hpx, hgx, _, hcx, _, hall⟩
      · rw [h] at hmem; cases hmem
      obtain ⟨q, hc, hp⟩ := hall j x hx
      have hWw : Below w.heap.size w wr := below_trans HWB.out HXN.out.bel
      have hS : Same (fun g => g < w.heap.size) w wr := Same.below hWw (fun g h => h)
      obtain ⟨c0, c1, c2, c3⟩ := hc.on hS hgx
      have hxlen : (ext x).length ≤ 1000000 := Nat.le_trans (ex_len (b := b) (e := e) HWH.out x hmem) HLEN.out
      have hcall := fun (o : Obj) => rx_any x q (wr.alloc o) ((HL.out.new hWw).new (below_alloc _ _)) (HWH.out.ex x hmem)
        (hp.on (Same.below (below_trans hWw (below_alloc wr o)) (fun g h => h)) (fun g h => by have := hWw.size; simp; omega)) hxlen
      have HC := Lib.hid hcall
      have htk : (xs.take (j + 1)).map sv = (xs.take j).map sv ++ [sv x] := by rw [List.take_add_one, hx]; simp
      have HTK := Lib.hid htk
      have hgw : gx < wr.heap.size := Nat.lt_of_lt_of_le hgx hWw.size
      unfold exv at HC
      subst hpx
      generalize opB x = s0 at *
      generalize nxB x = x0 at *
      generalize nyB x = y0 at *
      generalize nmB x = s1 at *
      generalize npB x = n0 at *
      obtain ⟨TX, hTX⟩ : ∃ TX, ext x = TX := ⟨_, rfl⟩
      rw [hTX] at HC
      have HTX := Lib.hid hTX
      clear hcall hall hc hp hS hx hWw htk hTX hxlen hmem hcx
      go_wp2_with (first
        | (go_at_call 52; refine Hid.out ?_)
        | (at_builtin; refine Hid.out ?_))
      refine Lib.hid ?_
      refine (HC.out _).mono ?_
      rintro en w2 ⟨rfl, hb2⟩
      have HB2 := Lib.hid hb2
      clear hb2 c0 c1 c2 c3
      go_wp2_with (at_builtin; refine Hid.out ?_)
      refine Lib.hid ?_
      have hwo : w2.ownsRow W.heap.size 9 1 u3 j ((xs.take j).map sv) := own_below HXN.out.own (below_new HB2.out)
      have hsz : W.heap.size ≤ w2.heap.size := Nat.le_trans HXN.out.bel.size (below_new HB2.out).size
      refine wpList_append_own_at _ rfl (.tmp 17) (.tmp 20) 24 rfl W.heap.size 9 i0 _ 1 16 Tryd.underlying24 HI.out HZ0.out HZ1.out HZ2.out rfl (by decide) u3 j ((xs.take j).map sv) rfl (hwo.alloc _) ⟨w2.heap.size, 0, Option.none⟩ 1 1 [.string ⟨TX.toArray⟩] rfl rfl
        (new_cells w2 [.string ⟨TX.toArray⟩] 9) (s_one _) (by unfold maxLen; omega) (by omega) (by simp; omega) ?_
      intro v3 w3 hown3 hgr3 _ _
      have hbel3 : Below W.heap.size W w3 := ((HXN.out.bel.trans ((below_new HB2.out).mono HXN.out.bel.size)).alloc hsz _).grown hgr3 (by simp; omega) (fun q hq => (hwo.lt q hq).1)
      have HX3 : Hid (Xin xs W w3 v3 (j + 1)) := Lib.hid ⟨hbel3, by rw [HTK.out]; unfold sv; rw [HTX.out]; exact hown3⟩
      clear hwo hsz hown3 hgr3 hbel3
      go_wp2
      go_roundw
      case rel => exact ⟨j + 1, by omega, by go_num, HX3.out⟩
      case measure => simp [intOf]; omega
    · obtain rfl : j = ln := by omega
      have hform := xin_form HXN.out HLN.out.symm
      rw [HLN.out] at hform
      have hWr := HXN.out.bel
      have d0 := cell_on b0 hWr
      have d1 := cell_on b1 hWr
      have d2 := cell_on b2 hWr
      have d3 := cell_on b3 hWr
      have d5 := cell_on b5 hWr
      have d6 := cell_on b6 hWr
      clear b0 b1 b2 b3 b4 b5 b6 hlt hj
      have HWR := Lib.hid hWr
      clear hWr
      have HCJ : Hid (∀ w', Below wr.heap.size wr w' → Calls Tryd.prog 53 #[u3, .string ⟨#[44, 32]⟩] w' fun en w'' => en = .returned (.string ⟨(atT false xs).toArray⟩) ∧ Below w'.heap.size w' w'') := Lib.hid (by
        intro w' hb'
        rcases hform with ⟨rfl, rfl⟩ | ⟨g, cap, rfl, hg, hcap, hmx, hcell⟩
        · exact (Tryd.strings_Join_none none 0 ⟨#[44, 32]⟩ w').mono fun en w'' ⟨h1, h2⟩ => ⟨by rw [h1]; rfl, by rw [h2]; exact Below.refl _ _⟩
        · have hj := Tryd.strings_Join g 0 cap (xs.map fun x => ⟨(ext x).toArray⟩) ⟨#[44, 32]⟩ w' (by
              intro i y hy
              rw [List.getElem?_map] at hy
              cases hxi : xs[i]? with
              | none => rw [hxi] at hy; cases hy
              | some x =>
                rw [hxi] at hy
                injection hy with hy
                subst hy
                rw [Nat.zero_add]
                exact (cell_on (hcell i x hxi) hb')) (Nat.lt_of_lt_of_le hg hb'.size) (by simp; rw [HLN.out]; omega) (by simp; rw [HLN.out]; omega) (by
              have := at_len (b := b) (e := e) HWH.out
              have := HLEN.out
              simp only [atT, rX, Bool.false_eq_true, ↓reduceIte, List.map_map] at *
              refine Nat.le_trans (Nat.le_of_eq ?_) (Nat.le_trans ‹(Lib.join _ _).length ≤ _› (by omega))
              rfl)
          rw [List.length_map, HLN.out] at hj
          refine hj.mono fun en w'' ⟨h1, h2⟩ => ⟨?_, h2⟩
          rw [h1]
          simp only [atT, rX, Bool.false_eq_true, ↓reduceIte, List.map_map]
          rfl)
      obtain ⟨AT, hAT⟩ : ∃ AT, atT false xs = AT := ⟨_, rfl⟩
      have hatl : AT.length ≤ 1000000 := by rw [← hAT]; exact Nat.le_trans (at_len (b := b) (e := e) HWH.out) HLEN.out
      rw [hAT] at HCJ
      have HAT := Lib.hid hAT
      obtain ⟨NT, hNT⟩ : ∃ NT, nm = NT := ⟨_, rfl⟩
      have HNT : Hid (ntT nm false xs = NT) := Lib.hid (by rw [← hNT]; rfl)
      have hntl : NT.length ≤ 1000000 := by rw [← hNT]; have := HWH.out.name.len; omega
      rw [hNT] at d2
      have hrgl : rg.length ≤ 1 := HWH.out.rlen
      clear hAT hNT hform
      go_wp2_with fail
      refine (HCJ.out _ (Below.refl _ _)).mono ?_
      rintro en w3 ⟨rfl, hb3⟩
      have HB3 := Lib.hid (below_trans (below_trans HWB.out HWR.out) hb3)
      have e0 := cell_on d0 hb3
      have e1 := cell_on d1 hb3
      have e5 := cell_on d5 hb3
      have e6 := cell_on d6 hb3
      have hnw : n < w3.heap.size := lt_of_cell e0
      clear d0 d1 d2 d3 d5 d6 hb3 HCJ
      obtain rfl | rfl | rfl | rfl | rfl | rfl | rfl | rfl | rfl | rfl | rfl | rfl | rfl | rfl | rfl | rfl | rfl : k = 0 ∨ k = 1 ∨ k = 2 ∨ k = 3 ∨ k = 4 ∨ k = 5 ∨ k = 6 ∨ k = 7 ∨ k = 8 ∨ k = 9 ∨ k = 10 ∨ k = 11 ∨ k = 12 ∨ k = 13 ∨ k = 14 ∨ k = 15 ∨ k = 16 := by omega
      · have k1 := cat_big rg [32, 61, 32] (by first | omega | (simp only [List.length_append, List.length_cons, List.length_nil]; omega)) (by first | omega | (simp only [List.length_append, List.length_cons, List.length_nil]; omega))
        have k2 := cat_big (rg ++ [32, 61, 32]) AT (by first | omega | (simp only [List.length_append, List.length_cons, List.length_nil]; omega)) (by first | omega | (simp only [List.length_append, List.length_cons, List.length_nil]; omega))
        have k3 := cat_big (rg ++ [32, 61, 32] ++ AT) [59, 10] (by first | omega | (simp only [List.length_append, List.length_cons, List.length_nil]; omega)) (by first | omega | (simp only [List.length_append, List.length_cons, List.length_nil]; omega))
        obtain ⟨T1, h1⟩ : ∃ T1 : List UInt8, rg ++ [32, 61, 32] = T1 := ⟨_, rfl⟩
        rw [h1] at k1 k2 k3
        obtain ⟨T2, h2⟩ : ∃ T2 : List UInt8, T1 ++ AT = T2 := ⟨_, rfl⟩
        rw [h2] at k2 k3
        obtain ⟨T3, h3⟩ : ∃ T3 : List UInt8, T2 ++ [59, 10] = T3 := ⟨_, rfl⟩
        rw [h3] at k3
        have HT : Hid (stT 0 rg nm false xs b e = T3) := Lib.hid (by rw [st_set HWH.out]; show rg ++ [32, 61, 32] ++ atT false xs ++ [59, 10] = T3; rw [HAT.out]; exact (show rg ++ [32, 61, 32] ++ AT ++ [59, 10] = T3 by rw [h1, h2, h3]))
        clear h1 h2 h3
        go_wp2
        go_ret
        exact ⟨by rw [HT.out]; rfl, HN.out ▸ (HB3.out.alloc HB3.out.size _)⟩
      · have k1 := cat_big rg [32, 61, 32] (by first | omega | (simp only [List.length_append, List.length_cons, List.length_nil]; omega)) (by first | omega | (simp only [List.length_append, List.length_cons, List.length_nil]; omega))
        have k2 := cat_big (rg ++ [32, 61, 32]) [108, 111, 97, 100] (by first | omega | (simp only [List.length_append, List.length_cons, List.length_nil]; omega)) (by first | omega | (simp only [List.length_append, List.length_cons, List.length_nil]; omega))
        have k3 := cat_big (rg ++ [32, 61, 32] ++ [108, 111, 97, 100]) [32] (by first | omega | (simp only [List.length_append, List.length_cons, List.length_nil]; omega)) (by first | omega | (simp only [List.length_append, List.length_cons, List.length_nil]; omega))
        have k4 := cat_big (rg ++ [32, 61, 32] ++ [108, 111, 97, 100] ++ [32]) NT (by first | omega | (simp only [List.length_append, List.length_cons, List.length_nil]; omega)) (by first | omega | (simp only [List.length_append, List.length_cons, List.length_nil]; omega))
        have k5 := cat_big (rg ++ [32, 61, 32] ++ [108, 111, 97, 100] ++ [32] ++ NT) [59, 10] (by first | omega | (simp only [List.length_append, List.length_cons, List.length_nil]; omega)) (by first | omega | (simp only [List.length_append, List.length_cons, List.length_nil]; omega))
        obtain ⟨T1, h1⟩ : ∃ T1 : List UInt8, rg ++ [32, 61, 32] = T1 := ⟨_, rfl⟩
        rw [h1] at k1 k2 k3 k4 k5
        obtain ⟨T2, h2⟩ : ∃ T2 : List UInt8, T1 ++ [108, 111, 97, 100] = T2 := ⟨_, rfl⟩
        rw [h2] at k2 k3 k4 k5
        obtain ⟨T3, h3⟩ : ∃ T3 : List UInt8, T2 ++ [32] = T3 := ⟨_, rfl⟩
        rw [h3] at k3 k4 k5
        obtain ⟨T4, h4⟩ : ∃ T4 : List UInt8, T3 ++ NT = T4 := ⟨_, rfl⟩
        rw [h4] at k4 k5
        obtain ⟨T5, h5⟩ : ∃ T5 : List UInt8, T4 ++ [59, 10] = T5 := ⟨_, rfl⟩
        rw [h5] at k5
        have HT : Hid (stT 1 rg nm false xs b e = T5) := Lib.hid (by rw [st_give0 HWH.out (by decide) (by decide) (by decide) (by omega)]; show rg ++ [32, 61, 32] ++ word 1 ++ [32] ++ ntT nm false xs ++ [59, 10] = T5; rw [HNT.out]; exact (show rg ++ [32, 61, 32] ++ [108, 111, 97, 100] ++ [32] ++ NT ++ [59, 10] = T5 by rw [h1, h2, h3, h4, h5]))
        clear h1 h2 h3 h4 h5
        go_wp2
        go_ret
        exact ⟨by rw [HT.out]; rfl, HN.out ▸ (HB3.out.alloc HB3.out.size _)⟩
      · have k1 := cat_big [115, 116, 111, 114, 101, 32] NT (by first | omega | (simp only [List.length_append, List.length_cons, List.length_nil]; omega)) (by first | omega | (simp only [List.length_append, List.length_cons, List.length_nil]; omega))
        have k2 := cat_big ([115, 116, 111, 114, 101, 32] ++ NT) [44, 32] (by first | omega | (simp only [List.length_append, List.length_cons, List.length_nil]; omega)) (by first | omega | (simp only [List.length_append, List.length_cons, List.length_nil]; omega))
        have k3 := cat_big ([115, 116, 111, 114, 101, 32] ++ NT ++ [44, 32]) AT (by first | omega | (simp only [List.length_append, List.length_cons, List.length_nil]; omega)) (by first | omega | (simp only [List.length_append, List.length_cons, List.length_nil]; omega))
        have k4 := cat_big ([115, 116, 111, 114, 101, 32] ++ NT ++ [44, 32] ++ AT) [59, 10] (by first | omega | (simp only [List.length_append, List.length_cons, List.length_nil]; omega)) (by first | omega | (simp only [List.length_append, List.length_cons, List.length_nil]; omega))
        obtain ⟨T1, h1⟩ : ∃ T1 : List UInt8, [115, 116, 111, 114, 101, 32] ++ NT = T1 := ⟨_, rfl⟩
        rw [h1] at k1 k2 k3 k4
        obtain ⟨T2, h2⟩ : ∃ T2 : List UInt8, T1 ++ [44, 32] = T2 := ⟨_, rfl⟩
        rw [h2] at k2 k3 k4
        obtain ⟨T3, h3⟩ : ∃ T3 : List UInt8, T2 ++ AT = T3 := ⟨_, rfl⟩
        rw [h3] at k3 k4
        obtain ⟨T4, h4⟩ : ∃ T4 : List UInt8, T3 ++ [59, 10] = T4 := ⟨_, rfl⟩
        rw [h4] at k4
        have HT : Hid (stT 2 rg nm false xs b e = T4) := Lib.hid (by rw [st_store HWH.out]; show [115, 116, 111, 114, 101, 32] ++ ntT nm false xs ++ [44, 32] ++ atT false xs ++ [59, 10] = T4; rw [HNT.out, HAT.out]; exact (show [115, 116, 111, 114, 101, 32] ++ NT ++ [44, 32] ++ AT ++ [59, 10] = T4 by rw [h1, h2, h3, h4]))
        clear h1 h2 h3 h4
        go_wp2
        go_ret
        exact ⟨by rw [HT.out]; rfl, HN.out ▸ (HB3.out.alloc HB3.out.size _)⟩
      · have k1 := cat_big rg [32, 61, 32] (by first | omega | (simp only [List.length_append, List.length_cons, List.length_nil]; omega)) (by first | omega | (simp only [List.length_append, List.length_cons, List.length_nil]; omega))
        have k2 := cat_big (rg ++ [32, 61, 32]) [97, 100, 100] (by first | omega | (simp only [List.length_append, List.length_cons, List.length_nil]; omega)) (by first | omega | (simp only [List.length_append, List.length_cons, List.length_nil]; omega))
        have k3 := cat_big (rg ++ [32, 61, 32] ++ [97, 100, 100]) [32] (by first | omega | (simp only [List.length_append, List.length_cons, List.length_nil]; omega)) (by first | omega | (simp only [List.length_append, List.length_cons, List.length_nil]; omega))
        have k4 := cat_big (rg ++ [32, 61, 32] ++ [97, 100, 100] ++ [32]) NT (by first | omega | (simp only [List.length_append, List.length_cons, List.length_nil]; omega)) (by first | omega | (simp only [List.length_append, List.length_cons, List.length_nil]; omega))
        have k5 := cat_big (rg ++ [32, 61, 32] ++ [97, 100, 100] ++ [32] ++ NT) [44, 32] (by first | omega | (simp only [List.length_append, List.length_cons, List.length_nil]; omega)) (by first | omega | (simp only [List.length_append, List.length_cons, List.length_nil]; omega))
        have k6 := cat_big (rg ++ [32, 61, 32] ++ [97, 100, 100] ++ [32] ++ NT ++ [44, 32]) AT (by first | omega | (simp only [List.length_append, List.length_cons, List.length_nil]; omega)) (by first | omega | (simp only [List.length_append, List.length_cons, List.length_nil]; omega))
        have k7 := cat_big (rg ++ [32, 61, 32] ++ [97, 100, 100] ++ [32] ++ NT ++ [44, 32] ++ AT) [59, 10] (by first | omega | (simp only [List.length_append, List.length_cons, List.length_nil]; omega)) (by first | omega | (simp only [List.length_append, List.length_cons, List.length_nil]; omega))
        obtain ⟨T1, h1⟩ : ∃ T1 : List UInt8, rg ++ [32, 61, 32] = T1 := ⟨_, rfl⟩
        rw [h1] at k1 k2 k3 k4 k5 k6 k7
        obtain ⟨T2, h2⟩ : ∃ T2 : List UInt8, T1 ++ [97, 100, 100] = T2 := ⟨_, rfl⟩
        rw [h2] at k2 k3 k4 k5 k6 k7
        obtain ⟨T3, h3⟩ : ∃ T3 : List UInt8, T2 ++ [32] = T3 := ⟨_, rfl⟩
        rw [h3] at k3 k4 k5 k6 k7
        obtain ⟨T4, h4⟩ : ∃ T4 : List UInt8, T3 ++ NT = T4 := ⟨_, rfl⟩
        rw [h4] at k4 k5 k6 k7
        obtain ⟨T5, h5⟩ : ∃ T5 : List UInt8, T4 ++ [44, 32] = T5 := ⟨_, rfl⟩
        rw [h5] at k5 k6 k7
        obtain ⟨T6, h6⟩ : ∃ T6 : List UInt8, T5 ++ AT = T6 := ⟨_, rfl⟩
        rw [h6] at k6 k7
        obtain ⟨T7, h7⟩ : ∃ T7 : List UInt8, T6 ++ [59, 10] = T7 := ⟨_, rfl⟩
        rw [h7] at k7
        have HT : Hid (stT 3 rg nm false xs b e = T7) := Lib.hid (by rw [st_give1 HWH.out (by decide) (by decide) (by decide) (by omega)]; show rg ++ [32, 61, 32] ++ word 3 ++ [32] ++ ntT nm false xs ++ [44, 32] ++ atT false xs ++ [59, 10] = T7; rw [HNT.out, HAT.out]; exact (show rg ++ [32, 61, 32] ++ [97, 100, 100] ++ [32] ++ NT ++ [44, 32] ++ AT ++ [59, 10] = T7 by rw [h1, h2, h3, h4, h5, h6, h7]))
        clear h1 h2 h3 h4 h5 h6 h7
        go_wp2
        go_ret
        exact ⟨by rw [HT.out]; rfl, HN.out ▸ (HB3.out.alloc HB3.out.size _)⟩
      · have k1 := cat_big rg [32, 61, 32] (by first | omega | (simp only [List.length_append, List.length_cons, List.length_nil]; omega)) (by first | omega | (simp only [List.length_append, List.length_cons, List.length_nil]; omega))
        have k2 := cat_big (rg ++ [32, 61, 32]) [115, 119, 97, 112] (by first | omega | (simp only [List.length_append, List.length_cons, List.length_nil]; omega)) (by first | omega | (simp only [List.length_append, List.length_cons, List.length_nil]; omega))
        have k3 := cat_big (rg ++ [32, 61, 32] ++ [115, 119, 97, 112]) [32] (by first | omega | (simp only [List.length_append, List.length_cons, List.length_nil]; omega)) (by first | omega | (simp only [List.length_append, List.length_cons, List.length_nil]; omega))
        have k4 := cat_big (rg ++ [32, 61, 32] ++ [115, 119, 97, 112] ++ [32]) NT (by first | omega | (simp only [List.length_append, List.length_cons, List.length_nil]; omega)) (by first | omega | (simp only [List.length_append, List.length_cons, List.length_nil]; omega))
        have k5 := cat_big (rg ++ [32, 61, 32] ++ [115, 119, 97, 112] ++ [32] ++ NT) [44, 32] (by first | omega | (simp only [List.length_append, List.length_cons, List.length_nil]; omega)) (by first | omega | (simp only [List.length_append, List.length_cons, List.length_nil]; omega))
        have k6 := cat_big (rg ++ [32, 61, 32] ++ [115, 119, 97, 112] ++ [32] ++ NT ++ [44, 32]) AT (by first | omega | (simp only [List.length_append, List.length_cons, List.length_nil]; omega)) (by first | omega | (simp only [List.length_append, List.length_cons, List.length_nil]; omega))
        have k7 := cat_big (rg ++ [32, 61, 32] ++ [115, 119, 97, 112] ++ [32] ++ NT ++ [44, 32] ++ AT) [59, 10] (by first | omega | (simp only [List.length_append, List.length_cons, List.length_nil]; omega)) (by first | omega | (simp only [List.length_append, List.length_cons, List.length_nil]; omega))
        obtain ⟨T1, h1⟩ : ∃ T1 : List UInt8, rg ++ [32, 61, 32] = T1 := ⟨_, rfl⟩
        rw [h1] at k1 k2 k3 k4 k5 k6 k7
        obtain ⟨T2, h2⟩ : ∃ T2 : List UInt8, T1 ++ [115, 119, 97, 112] = T2 := ⟨_, rfl⟩
        rw [h2] at k2 k3 k4 k5 k6 k7
        obtain ⟨T3, h3⟩ : ∃ T3 : List UInt8, T2 ++ [32] = T3 := ⟨_, rfl⟩
        rw [h3] at k3 k4 k5 k6 k7
        obtain ⟨T4, h4⟩ : ∃ T4 : List UInt8, T3 ++ NT = T4 := ⟨_, rfl⟩
        rw [h4] at k4 k5 k6 k7
        obtain ⟨T5, h5⟩ : ∃ T5 : List UInt8, T4 ++ [44, 32] = T5 := ⟨_, rfl⟩
        rw [h5] at k5 k6 k7
        obtain ⟨T6, h6⟩ : ∃ T6 : List UInt8, T5 ++ AT = T6 := ⟨_, rfl⟩
        rw [h6] at k6 k7
        obtain ⟨T7, h7⟩ : ∃ T7 : List UInt8, T6 ++ [59, 10] = T7 := ⟨_, rfl⟩
        rw [h7] at k7
        have HT : Hid (stT 4 rg nm false xs b e = T7) := Lib.hid (by rw [st_give1 HWH.out (by decide) (by decide) (by decide) (by omega)]; show rg ++ [32, 61, 32] ++ word 4 ++ [32] ++ ntT nm false xs ++ [44, 32] ++ atT false xs ++ [59, 10] = T7; rw [HNT.out, HAT.out]; exact (show rg ++ [32, 61, 32] ++ [115, 119, 97, 112] ++ [32] ++ NT ++ [44, 32] ++ AT ++ [59, 10] = T7 by rw [h1, h2, h3, h4, h5, h6, h7]))
        clear h1 h2 h3 h4 h5 h6 h7
        go_wp2
        go_ret
        exact ⟨by rw [HT.out]; rfl, HN.out ▸ (HB3.out.alloc HB3.out.size _)⟩
      · have k1 := cat_big rg [32, 61, 32] (by first | omega | (simp only [List.length_append, List.length_cons, List.length_nil]; omega)) (by first | omega | (simp only [List.length_append, List.length_cons, List.length_nil]; omega))
        have k2 := cat_big (rg ++ [32, 61, 32]) [99, 97, 115] (by first | omega | (simp only [List.length_append, List.length_cons, List.length_nil]; omega)) (by first | omega | (simp only [List.length_append, List.length_cons, List.length_nil]; omega))
        have k3 := cat_big (rg ++ [32, 61, 32] ++ [99, 97, 115]) [32] (by first | omega | (simp only [List.length_append, List.length_cons, List.length_nil]; omega)) (by first | omega | (simp only [List.length_append, List.length_cons, List.length_nil]; omega))
        have k4 := cat_big (rg ++ [32, 61, 32] ++ [99, 97, 115] ++ [32]) NT (by first | omega | (simp only [List.length_append, List.length_cons, List.length_nil]; omega)) (by first | omega | (simp only [List.length_append, List.length_cons, List.length_nil]; omega))
        have k5 := cat_big (rg ++ [32, 61, 32] ++ [99, 97, 115] ++ [32] ++ NT) [44, 32] (by first | omega | (simp only [List.length_append, List.length_cons, List.length_nil]; omega)) (by first | omega | (simp only [List.length_append, List.length_cons, List.length_nil]; omega))
        have k6 := cat_big (rg ++ [32, 61, 32] ++ [99, 97, 115] ++ [32] ++ NT ++ [44, 32]) AT (by first | omega | (simp only [List.length_append, List.length_cons, List.length_nil]; omega)) (by first | omega | (simp only [List.length_append, List.length_cons, List.length_nil]; omega))
        have k7 := cat_big (rg ++ [32, 61, 32] ++ [99, 97, 115] ++ [32] ++ NT ++ [44, 32] ++ AT) [59, 10] (by first | omega | (simp only [List.length_append, List.length_cons, List.length_nil]; omega)) (by first | omega | (simp only [List.length_append, List.length_cons, List.length_nil]; omega))
        obtain ⟨T1, h1⟩ : ∃ T1 : List UInt8, rg ++ [32, 61, 32] = T1 := ⟨_, rfl⟩
        rw [h1] at k1 k2 k3 k4 k5 k6 k7
        obtain ⟨T2, h2⟩ : ∃ T2 : List UInt8, T1 ++ [99, 97, 115] = T2 := ⟨_, rfl⟩
        rw [h2] at k2 k3 k4 k5 k6 k7
        obtain ⟨T3, h3⟩ : ∃ T3 : List UInt8, T2 ++ [32] = T3 := ⟨_, rfl⟩
        rw [h3] at k3 k4 k5 k6 k7
        obtain ⟨T4, h4⟩ : ∃ T4 : List UInt8, T3 ++ NT = T4 := ⟨_, rfl⟩
        rw [h4] at k4 k5 k6 k7
        obtain ⟨T5, h5⟩ : ∃ T5 : List UInt8, T4 ++ [44, 32] = T5 := ⟨_, rfl⟩
        rw [h5] at k5 k6 k7
        obtain ⟨T6, h6⟩ : ∃ T6 : List UInt8, T5 ++ AT = T6 := ⟨_, rfl⟩
        rw [h6] at k6 k7
        obtain ⟨T7, h7⟩ : ∃ T7 : List UInt8, T6 ++ [59, 10] = T7 := ⟨_, rfl⟩
        rw [h7] at k7
        have HT : Hid (stT 5 rg nm false xs b e = T7) := Lib.hid (by rw [st_give1 HWH.out (by decide) (by decide) (by decide) (by omega)]; show rg ++ [32, 61, 32] ++ word 5 ++ [32] ++ ntT nm false xs ++ [44, 32] ++ atT false xs ++ [59, 10] = T7; rw [HNT.out, HAT.out]; exact (show rg ++ [32, 61, 32] ++ [99, 97, 115] ++ [32] ++ NT ++ [44, 32] ++ AT ++ [59, 10] = T7 by rw [h1, h2, h3, h4, h5, h6, h7]))
        clear h1 h2 h3 h4 h5 h6 h7
        go_wp2
        go_ret
        exact ⟨by rw [HT.out]; rfl, HN.out ▸ (HB3.out.alloc HB3.out.size _)⟩
      · have k1 := cat_big [108, 111, 99, 107] [32] (by first | omega | (simp only [List.length_append, List.length_cons, List.length_nil]; omega)) (by first | omega | (simp only [List.length_append, List.length_cons, List.length_nil]; omega))
        have k2 := cat_big ([108, 111, 99, 107] ++ [32]) NT (by first | omega | (simp only [List.length_append, List.length_cons, List.length_nil]; omega)) (by first | omega | (simp only [List.length_append, List.length_cons, List.length_nil]; omega))
        have k3 := cat_big ([108, 111, 99, 107] ++ [32] ++ NT) [59, 10] (by first | omega | (simp only [List.length_append, List.length_cons, List.length_nil]; omega)) (by first | omega | (simp only [List.length_append, List.length_cons, List.length_nil]; omega))
        obtain ⟨T1, h1⟩ : ∃ T1 : List UInt8, [108, 111, 99, 107] ++ [32] = T1 := ⟨_, rfl⟩
        rw [h1] at k1 k2 k3
        obtain ⟨T2, h2⟩ : ∃ T2 : List UInt8, T1 ++ NT = T2 := ⟨_, rfl⟩
        rw [h2] at k2 k3
        obtain ⟨T3, h3⟩ : ∃ T3 : List UInt8, T2 ++ [59, 10] = T3 := ⟨_, rfl⟩
        rw [h3] at k3
        have HT : Hid (stT 6 rg nm false xs b e = T3) := Lib.hid (by rw [st_plain HWH.out (by decide) (by decide) (by decide) (by omega)]; show word 6 ++ [32] ++ ntT nm false xs ++ [59, 10] = T3; rw [HNT.out]; exact (show [108, 111, 99, 107] ++ [32] ++ NT ++ [59, 10] = T3 by rw [h1, h2, h3]))
        clear h1 h2 h3
        go_wp2
        go_ret
        exact ⟨by rw [HT.out]; rfl, HN.out ▸ (HB3.out.alloc HB3.out.size _)⟩
      · have k1 := cat_big [117, 110, 108, 111, 99, 107] [32] (by first | omega | (simp only [List.length_append, List.length_cons, List.length_nil]; omega)) (by first | omega | (simp only [List.length_append, List.length_cons, List.length_nil]; omega))
        have k2 := cat_big ([117, 110, 108, 111, 99, 107] ++ [32]) NT (by first | omega | (simp only [List.length_append, List.length_cons, List.length_nil]; omega)) (by first | omega | (simp only [List.length_append, List.length_cons, List.length_nil]; omega))
        have k3 := cat_big ([117, 110, 108, 111, 99, 107] ++ [32] ++ NT) [59, 10] (by first | omega | (simp only [List.length_append, List.length_cons, List.length_nil]; omega)) (by first | omega | (simp only [List.length_append, List.length_cons, List.length_nil]; omega))
        obtain ⟨T1, h1⟩ : ∃ T1 : List UInt8, [117, 110, 108, 111, 99, 107] ++ [32] = T1 := ⟨_, rfl⟩
        rw [h1] at k1 k2 k3
        obtain ⟨T2, h2⟩ : ∃ T2 : List UInt8, T1 ++ NT = T2 := ⟨_, rfl⟩
        rw [h2] at k2 k3
        obtain ⟨T3, h3⟩ : ∃ T3 : List UInt8, T2 ++ [59, 10] = T3 := ⟨_, rfl⟩
        rw [h3] at k3
        have HT : Hid (stT 7 rg nm false xs b e = T3) := Lib.hid (by rw [st_plain HWH.out (by decide) (by decide) (by decide) (by omega)]; show word 7 ++ [32] ++ ntT nm false xs ++ [59, 10] = T3; rw [HNT.out]; exact (show [117, 110, 108, 111, 99, 107] ++ [32] ++ NT ++ [59, 10] = T3 by rw [h1, h2, h3]))
        clear h1 h2 h3
        go_wp2
        go_ret
        exact ⟨by rw [HT.out]; rfl, HN.out ▸ (HB3.out.alloc HB3.out.size _)⟩
      · have k1 := cat_big rg [32, 61, 32] (by first | omega | (simp only [List.length_append, List.length_cons, List.length_nil]; omega)) (by first | omega | (simp only [List.length_append, List.length_cons, List.length_nil]; omega))
        have k2 := cat_big (rg ++ [32, 61, 32]) [116, 114, 121] (by first | omega | (simp only [List.length_append, List.length_cons, List.length_nil]; omega)) (by first | omega | (simp only [List.length_append, List.length_cons, List.length_nil]; omega))
        have k3 := cat_big (rg ++ [32, 61, 32] ++ [116, 114, 121]) [32] (by first | omega | (simp only [List.length_append, List.length_cons, List.length_nil]; omega)) (by first | omega | (simp only [List.length_append, List.length_cons, List.length_nil]; omega))
        have k4 := cat_big (rg ++ [32, 61, 32] ++ [116, 114, 121] ++ [32]) NT (by first | omega | (simp only [List.length_append, List.length_cons, List.length_nil]; omega)) (by first | omega | (simp only [List.length_append, List.length_cons, List.length_nil]; omega))
        have k5 := cat_big (rg ++ [32, 61, 32] ++ [116, 114, 121] ++ [32] ++ NT) [59, 10] (by first | omega | (simp only [List.length_append, List.length_cons, List.length_nil]; omega)) (by first | omega | (simp only [List.length_append, List.length_cons, List.length_nil]; omega))
        obtain ⟨T1, h1⟩ : ∃ T1 : List UInt8, rg ++ [32, 61, 32] = T1 := ⟨_, rfl⟩
        rw [h1] at k1 k2 k3 k4 k5
        obtain ⟨T2, h2⟩ : ∃ T2 : List UInt8, T1 ++ [116, 114, 121] = T2 := ⟨_, rfl⟩
        rw [h2] at k2 k3 k4 k5
        obtain ⟨T3, h3⟩ : ∃ T3 : List UInt8, T2 ++ [32] = T3 := ⟨_, rfl⟩
        rw [h3] at k3 k4 k5
        obtain ⟨T4, h4⟩ : ∃ T4 : List UInt8, T3 ++ NT = T4 := ⟨_, rfl⟩
        rw [h4] at k4 k5
        obtain ⟨T5, h5⟩ : ∃ T5 : List UInt8, T4 ++ [59, 10] = T5 := ⟨_, rfl⟩
        rw [h5] at k5
        have HT : Hid (stT 8 rg nm false xs b e = T5) := Lib.hid (by rw [st_give0 HWH.out (by decide) (by decide) (by decide) (by omega)]; show rg ++ [32, 61, 32] ++ word 8 ++ [32] ++ ntT nm false xs ++ [59, 10] = T5; rw [HNT.out]; exact (show rg ++ [32, 61, 32] ++ [116, 114, 121] ++ [32] ++ NT ++ [59, 10] = T5 by rw [h1, h2, h3, h4, h5]))
        clear h1 h2 h3 h4 h5
        go_wp2
        go_ret
        exact ⟨by rw [HT.out]; rfl, HN.out ▸ (HB3.out.alloc HB3.out.size _)⟩
      · have k1 := cat_big [119, 97, 105, 116] [32] (by first | omega | (simp only [List.length_append, List.length_cons, List.length_nil]; omega)) (by first | omega | (simp only [List.length_append, List.length_cons, List.length_nil]; omega))
        have k2 := cat_big ([119, 97, 105, 116] ++ [32]) NT (by first | omega | (simp only [List.length_append, List.length_cons, List.length_nil]; omega)) (by first | omega | (simp only [List.length_append, List.length_cons, List.length_nil]; omega))
        have k3 := cat_big ([119, 97, 105, 116] ++ [32] ++ NT) [59, 10] (by first | omega | (simp only [List.length_append, List.length_cons, List.length_nil]; omega)) (by first | omega | (simp only [List.length_append, List.length_cons, List.length_nil]; omega))
        obtain ⟨T1, h1⟩ : ∃ T1 : List UInt8, [119, 97, 105, 116] ++ [32] = T1 := ⟨_, rfl⟩
        rw [h1] at k1 k2 k3
        obtain ⟨T2, h2⟩ : ∃ T2 : List UInt8, T1 ++ NT = T2 := ⟨_, rfl⟩
        rw [h2] at k2 k3
        obtain ⟨T3, h3⟩ : ∃ T3 : List UInt8, T2 ++ [59, 10] = T3 := ⟨_, rfl⟩
        rw [h3] at k3
        have HT : Hid (stT 9 rg nm false xs b e = T3) := Lib.hid (by rw [st_plain HWH.out (by decide) (by decide) (by decide) (by omega)]; show word 9 ++ [32] ++ ntT nm false xs ++ [59, 10] = T3; rw [HNT.out]; exact (show [119, 97, 105, 116] ++ [32] ++ NT ++ [59, 10] = T3 by rw [h1, h2, h3]))
        clear h1 h2 h3
        go_wp2
        go_ret
        exact ⟨by rw [HT.out]; rfl, HN.out ▸ (HB3.out.alloc HB3.out.size _)⟩
      · have k1 := cat_big [112, 111, 115, 116] [32] (by first | omega | (simp only [List.length_append, List.length_cons, List.length_nil]; omega)) (by first | omega | (simp only [List.length_append, List.length_cons, List.length_nil]; omega))
        have k2 := cat_big ([112, 111, 115, 116] ++ [32]) NT (by first | omega | (simp only [List.length_append, List.length_cons, List.length_nil]; omega)) (by first | omega | (simp only [List.length_append, List.length_cons, List.length_nil]; omega))
        have k3 := cat_big ([112, 111, 115, 116] ++ [32] ++ NT) [59, 10] (by first | omega | (simp only [List.length_append, List.length_cons, List.length_nil]; omega)) (by first | omega | (simp only [List.length_append, List.length_cons, List.length_nil]; omega))
        obtain ⟨T1, h1⟩ : ∃ T1 : List UInt8, [112, 111, 115, 116] ++ [32] = T1 := ⟨_, rfl⟩
        rw [h1] at k1 k2 k3
        obtain ⟨T2, h2⟩ : ∃ T2 : List UInt8, T1 ++ NT = T2 := ⟨_, rfl⟩
        rw [h2] at k2 k3
        obtain ⟨T3, h3⟩ : ∃ T3 : List UInt8, T2 ++ [59, 10] = T3 := ⟨_, rfl⟩
        rw [h3] at k3
        have HT : Hid (stT 10 rg nm false xs b e = T3) := Lib.hid (by rw [st_plain HWH.out (by decide) (by decide) (by decide) (by omega)]; show word 10 ++ [32] ++ ntT nm false xs ++ [59, 10] = T3; rw [HNT.out]; exact (show [112, 111, 115, 116] ++ [32] ++ NT ++ [59, 10] = T3 by rw [h1, h2, h3]))
        clear h1 h2 h3
        go_wp2
        go_ret
        exact ⟨by rw [HT.out]; rfl, HN.out ▸ (HB3.out.alloc HB3.out.size _)⟩
      · have k1 := cat_big [115, 112, 97, 119, 110] [32] (by first | omega | (simp only [List.length_append, List.length_cons, List.length_nil]; omega)) (by first | omega | (simp only [List.length_append, List.length_cons, List.length_nil]; omega))
        have k2 := cat_big ([115, 112, 97, 119, 110] ++ [32]) NT (by first | omega | (simp only [List.length_append, List.length_cons, List.length_nil]; omega)) (by first | omega | (simp only [List.length_append, List.length_cons, List.length_nil]; omega))
        have k3 := cat_big ([115, 112, 97, 119, 110] ++ [32] ++ NT) [59, 10] (by first | omega | (simp only [List.length_append, List.length_cons, List.length_nil]; omega)) (by first | omega | (simp only [List.length_append, List.length_cons, List.length_nil]; omega))
        obtain ⟨T1, h1⟩ : ∃ T1 : List UInt8, [115, 112, 97, 119, 110] ++ [32] = T1 := ⟨_, rfl⟩
        rw [h1] at k1 k2 k3
        obtain ⟨T2, h2⟩ : ∃ T2 : List UInt8, T1 ++ NT = T2 := ⟨_, rfl⟩
        rw [h2] at k2 k3
        obtain ⟨T3, h3⟩ : ∃ T3 : List UInt8, T2 ++ [59, 10] = T3 := ⟨_, rfl⟩
        rw [h3] at k3
        have HT : Hid (stT 11 rg nm false xs b e = T3) := Lib.hid (by rw [st_plain HWH.out (by decide) (by decide) (by decide) (by omega)]; show word 11 ++ [32] ++ ntT nm false xs ++ [59, 10] = T3; rw [HNT.out]; exact (show [115, 112, 97, 119, 110] ++ [32] ++ NT ++ [59, 10] = T3 by rw [h1, h2, h3]))
        clear h1 h2 h3
        go_wp2
        go_ret
        exact ⟨by rw [HT.out]; rfl, HN.out ▸ (HB3.out.alloc HB3.out.size _)⟩
      · have k1 := cat_big [106, 111, 105, 110] [32] (by first | omega | (simp only [List.length_append, List.length_cons, List.length_nil]; omega)) (by first | omega | (simp only [List.length_append, List.length_cons, List.length_nil]; omega))
        have k2 := cat_big ([106, 111, 105, 110] ++ [32]) NT (by first | omega | (simp only [List.length_append, List.length_cons, List.length_nil]; omega)) (by first | omega | (simp only [List.length_append, List.length_cons, List.length_nil]; omega))
        have k3 := cat_big ([106, 111, 105, 110] ++ [32] ++ NT) [59, 10] (by first | omega | (simp only [List.length_append, List.length_cons, List.length_nil]; omega)) (by first | omega | (simp only [List.length_append, List.length_cons, List.length_nil]; omega))
        obtain ⟨T1, h1⟩ : ∃ T1 : List UInt8, [106, 111, 105, 110] ++ [32] = T1 := ⟨_, rfl⟩
        rw [h1] at k1 k2 k3
        obtain ⟨T2, h2⟩ : ∃ T2 : List UInt8, T1 ++ NT = T2 := ⟨_, rfl⟩
        rw [h2] at k2 k3
        obtain ⟨T3, h3⟩ : ∃ T3 : List UInt8, T2 ++ [59, 10] = T3 := ⟨_, rfl⟩
        rw [h3] at k3
        have HT : Hid (stT 12 rg nm false xs b e = T3) := Lib.hid (by rw [st_plain HWH.out (by decide) (by decide) (by decide) (by omega)]; show word 12 ++ [32] ++ ntT nm false xs ++ [59, 10] = T3; rw [HNT.out]; exact (show [106, 111, 105, 110] ++ [32] ++ NT ++ [59, 10] = T3 by rw [h1, h2, h3]))
        clear h1 h2 h3
        go_wp2
        go_ret
        exact ⟨by rw [HT.out]; rfl, HN.out ▸ (HB3.out.alloc HB3.out.size _)⟩
      · have k1 := cat_big [97, 115, 115, 101, 114, 116] [32] (by first | omega | (simp only [List.length_append, List.length_cons, List.length_nil]; omega)) (by first | omega | (simp only [List.length_append, List.length_cons, List.length_nil]; omega))
        have k2 := cat_big ([97, 115, 115, 101, 114, 116] ++ [32]) AT (by first | omega | (simp only [List.length_append, List.length_cons, List.length_nil]; omega)) (by first | omega | (simp only [List.length_append, List.length_cons, List.length_nil]; omega))
        have k3 := cat_big ([97, 115, 115, 101, 114, 116] ++ [32] ++ AT) [59, 10] (by first | omega | (simp only [List.length_append, List.length_cons, List.length_nil]; omega)) (by first | omega | (simp only [List.length_append, List.length_cons, List.length_nil]; omega))
        obtain ⟨T1, h1⟩ : ∃ T1 : List UInt8, [97, 115, 115, 101, 114, 116] ++ [32] = T1 := ⟨_, rfl⟩
        rw [h1] at k1 k2 k3
        obtain ⟨T2, h2⟩ : ∃ T2 : List UInt8, T1 ++ AT = T2 := ⟨_, rfl⟩
        rw [h2] at k2 k3
        obtain ⟨T3, h3⟩ : ∃ T3 : List UInt8, T2 ++ [59, 10] = T3 := ⟨_, rfl⟩
        rw [h3] at k3
        have HT : Hid (stT 13 rg nm false xs b e = T3) := Lib.hid (by rw [st_as HWH.out (by omega)]; show word 13 ++ [32] ++ atT false xs ++ [59, 10] = T3; rw [HAT.out]; exact (show [97, 115, 115, 101, 114, 116] ++ [32] ++ AT ++ [59, 10] = T3 by rw [h1, h2, h3]))
        clear h1 h2 h3
        go_wp2
        go_ret
        exact ⟨by rw [HT.out]; rfl, HN.out ▸ (HB3.out.alloc HB3.out.size _)⟩
      · have k1 := cat_big [97, 115, 115, 117, 109, 101] [32] (by first | omega | (simp only [List.length_append, List.length_cons, List.length_nil]; omega)) (by first | omega | (simp only [List.length_append, List.length_cons, List.length_nil]; omega))
        have k2 := cat_big ([97, 115, 115, 117, 109, 101] ++ [32]) AT (by first | omega | (simp only [List.length_append, List.length_cons, List.length_nil]; omega)) (by first | omega | (simp only [List.length_append, List.length_cons, List.length_nil]; omega))
        have k3 := cat_big ([97, 115, 115, 117, 109, 101] ++ [32] ++ AT) [59, 10] (by first | omega | (simp only [List.length_append, List.length_cons, List.length_nil]; omega)) (by first | omega | (simp only [List.length_append, List.length_cons, List.length_nil]; omega))
        obtain ⟨T1, h1⟩ : ∃ T1 : List UInt8, [97, 115, 115, 117, 109, 101] ++ [32] = T1 := ⟨_, rfl⟩
        rw [h1] at k1 k2 k3
        obtain ⟨T2, h2⟩ : ∃ T2 : List UInt8, T1 ++ AT = T2 := ⟨_, rfl⟩
        rw [h2] at k2 k3
        obtain ⟨T3, h3⟩ : ∃ T3 : List UInt8, T2 ++ [59, 10] = T3 := ⟨_, rfl⟩
        rw [h3] at k3
        have HT : Hid (stT 14 rg nm false xs b e = T3) := Lib.hid (by rw [st_as HWH.out (by omega)]; show word 14 ++ [32] ++ atT false xs ++ [59, 10] = T3; rw [HAT.out]; exact (show [97, 115, 115, 117, 109, 101] ++ [32] ++ AT ++ [59, 10] = T3 by rw [h1, h2, h3]))
        clear h1 h2 h3
        go_wp2
        go_ret
        exact ⟨by rw [HT.out]; rfl, HN.out ▸ (HB3.out.alloc HB3.out.size _)⟩
      · have hb0 : Calls Tryd.prog 29 = Calls Tryd.prog 29 := rfl
        clear hb0
        have hbl : (blkT b).length ≤ 1000000 ∧ (e.len ≠ 0 → (blkT e).length ≤ 1000000) := by
          have := HLEN.out
          rw [st_if HWH.out (by omega)] at this
          simp only [List.length_append] at this
          refine ⟨by omega, fun h => ?_⟩
          simp only [elseT, if_neg h, List.length_append] at this
          omega
        have HCB : Hid (∀ w', Below w3.heap.size w3 w' → Calls Tryd.prog 29 #[.slice pb b.len cb] w' fun en w'' => en = .returned (.string ⟨(blkT b).toArray⟩) ∧ Below w'.heap.size w' w'') := Lib.hid (fun w' h' => HRB.out pb cb w' ((HL.out.new HB3.out).new h') (HBV.out.on (Same.below (below_trans HB3.out h') (fun g h => h)) (fun g h => Nat.lt_of_lt_of_le h (below_trans HB3.out h').size)) hbl.1)
        have k1 := cat_big [105, 102] [32] (by simp) (by simp)
        have k2 := cat_big ([105, 102] ++ [32]) AT (by simp) (by omega)
        have k3 := cat_big ([105, 102] ++ [32] ++ AT) (blkT b) (by simp; omega) (by omega)
        obtain ⟨T1, h1⟩ : ∃ T1 : List UInt8, [105, 102] ++ [32] = T1 := ⟨_, rfl⟩
        rw [h1] at k1 k2 k3
        obtain ⟨T2, h2⟩ : ∃ T2, T1 ++ AT = T2 := ⟨_, rfl⟩
        rw [h2] at k2 k3
        obtain ⟨BB, hBB⟩ : ∃ BB, blkT b = BB := ⟨_, rfl⟩
        rw [hBB] at k3 HCB
        obtain ⟨T3, h3⟩ : ∃ T3, T2 ++ BB = T3 := ⟨_, rfl⟩
        rw [h3] at k3
        have hT3l : T3.length ≤ 2500000 := by rw [← h3, ← h2, ← h1, ← hBB]; simp; omega
        rcases HEV.out with ⟨rfl, rfl, rfl⟩ | ⟨ge, rfl, hge, hel, _, _, _⟩
        · have k4 := cat_big T3 [10] (by omega) (by simp)
          obtain ⟨T4, h4⟩ : ∃ T4, T3 ++ [10] = T4 := ⟨_, rfl⟩
          rw [h4] at k4
          have HT : Hid (stT 15 rg nm false xs b .nil = T4) := Lib.hid (by rw [st_if HWH.out (by omega), HAT.out, hBB]; show [105, 102] ++ [32] ++ AT ++ BB ++ [] ++ [10] = T4; rw [h1, h2, h3, List.append_nil, h4])
          simp only [Sts.len] at e6
          clear h1 h2 h3 h4 hBB hbl hT3l
          go_wp2_with fail
          refine (HCB.out _ (below_alloc _ _)).mono ?_
          rintro en w4 ⟨rfl, hb4⟩
          have f6 := cell_on (cell_on e6 (below_alloc w3 _)) hb4
          have HB4 := Lib.hid (below_trans HB3.out (below_new hb4))
          clear hb4 e0 e1 e5 e6
          go_wp2
          go_ret
          exact ⟨by rw [HT.out]; rfl, HN.out ▸ HB4.out⟩
        · have k4 := cat_big [32, 101, 108, 115, 101] (blkT e) (by simp) (by have := hbl.2 (by omega); omega)
          obtain ⟨EB, hEB⟩ : ∃ EB, blkT e = EB := ⟨_, rfl⟩
          have hEl : EB.length ≤ 1000000 := by rw [← hEB]; exact hbl.2 (by omega)
          have HCE : Hid (∀ w', Below w3.heap.size w3 w' → Calls Tryd.prog 29 #[.slice (some ⟨ge, 0, none⟩) e.len ce] w' fun en w'' => en = .returned (.string ⟨EB.toArray⟩) ∧ Below w'.heap.size w' w'') := Lib.hid (fun w' h' => hEB ▸ HRE.out _ ce w' ((HL.out.new HB3.out).new h') (HEV.out.on (Same.below (below_trans HB3.out h') (fun g h => h)) (fun g h => Nat.lt_of_lt_of_le h (below_trans HB3.out h').size)) (hbl.2 (by omega)))
          rw [hEB] at k4
          have k5 := cat_big T3 ([32, 101, 108, 115, 101] ++ EB) (by omega) (by simp; omega)
          have k6 := cat_big (T3 ++ ([32, 101, 108, 115, 101] ++ EB)) [10] (by simp; omega) (by simp)
          obtain ⟨T4, h4⟩ : ∃ T4 : List UInt8, [32, 101, 108, 115, 101] ++ EB = T4 := ⟨_, rfl⟩
          rw [h4] at k4 k5 k6
          obtain ⟨T5, h5⟩ : ∃ T5, T3 ++ T4 = T5 := ⟨_, rfl⟩
          rw [h5] at k5 k6
          obtain ⟨T6, h6⟩ : ∃ T6, T5 ++ [10] = T6 := ⟨_, rfl⟩
          rw [h6] at k6
          have HT : Hid (stT 15 rg nm false xs b e = T6) := Lib.hid (by rw [st_if HWH.out (by omega), HAT.out, hBB]; unfold elseT; rw [if_neg (by omega), hEB]; show [105, 102] ++ [32] ++ AT ++ BB ++ ([32, 101, 108, 115, 101] ++ EB) ++ [10] = T6; rw [h1, h2, h3, h4, h5, h6])
          have hel' : ((e.len : Nat) : Int) > 0 := by omega
          generalize e.len = el at *
          clear h1 h2 h3 h4 h5 h6 hBB hEB hbl hT3l
          go_wp2_with fail
          refine (HCB.out _ (below_alloc _ _)).mono ?_
          rintro en w4 ⟨rfl, hb4⟩
          have f6 := cell_on (cell_on e6 (below_alloc w3 _)) hb4
          have HB34 := Lib.hid (below_new hb4)
          clear hb4 e0 e1 e5 e6
          go_wp2_with fail
          refine (HCE.out _ HB34.out).mono ?_
          rintro en w5 ⟨rfl, hb5⟩
          have HB5 := Lib.hid (below_trans HB3.out (below_trans HB34.out hb5))
          clear hb5
          go_wp2
          go_ret
          exact ⟨by rw [HT.out]; rfl, HN.out ▸ HB5.out⟩
      · have hb0 : Calls Tryd.prog 29 = Calls Tryd.prog 29 := rfl
        clear hb0
        have hbl : (blkT b).length ≤ 1000000 ∧ (e.len ≠ 0 → (blkT e).length ≤ 1000000) := by
          have := HLEN.out
          rw [st_if HWH.out (by omega)] at this
          simp only [List.length_append] at this
          refine ⟨by omega, fun h => ?_⟩
          simp only [elseT, if_neg h, List.length_append] at this
          omega
        have HCB : Hid (∀ w', Below w3.heap.size w3 w' → Calls Tryd.prog 29 #[.slice pb b.len cb] w' fun en w'' => en = .returned (.string ⟨(blkT b).toArray⟩) ∧ Below w'.heap.size w' w'') := Lib.hid (fun w' h' => HRB.out pb cb w' ((HL.out.new HB3.out).new h') (HBV.out.on (Same.below (below_trans HB3.out h') (fun g h => h)) (fun g h => Nat.lt_of_lt_of_le h (below_trans HB3.out h').size)) hbl.1)
        have k1 := cat_big [119, 104, 105, 108, 101] [32] (by simp) (by simp)
        have k2 := cat_big ([119, 104, 105, 108, 101] ++ [32]) AT (by simp) (by omega)
        have k3 := cat_big ([119, 104, 105, 108, 101] ++ [32] ++ AT) (blkT b) (by simp; omega) (by omega)
        obtain ⟨T1, h1⟩ : ∃ T1 : List UInt8, [119, 104, 105, 108, 101] ++ [32] = T1 := ⟨_, rfl⟩
        rw [h1] at k1 k2 k3
        obtain ⟨T2, h2⟩ : ∃ T2, T1 ++ AT = T2 := ⟨_, rfl⟩
        rw [h2] at k2 k3
        obtain ⟨BB, hBB⟩ : ∃ BB, blkT b = BB := ⟨_, rfl⟩
        rw [hBB] at k3 HCB
        obtain ⟨T3, h3⟩ : ∃ T3, T2 ++ BB = T3 := ⟨_, rfl⟩
        rw [h3] at k3
        have hT3l : T3.length ≤ 2500000 := by rw [← h3, ← h2, ← h1, ← hBB]; simp; omega
        rcases HEV.out with ⟨rfl, rfl, rfl⟩ | ⟨ge, rfl, hge, hel, _, _, _⟩
        · have k4 := cat_big T3 [10] (by omega) (by simp)
          obtain ⟨T4, h4⟩ : ∃ T4, T3 ++ [10] = T4 := ⟨_, rfl⟩
          rw [h4] at k4
          have HT : Hid (stT 16 rg nm false xs b .nil = T4) := Lib.hid (by rw [st_if HWH.out (by omega), HAT.out, hBB]; show [119, 104, 105, 108, 101] ++ [32] ++ AT ++ BB ++ [] ++ [10] = T4; rw [h1, h2, h3, List.append_nil, h4])
          simp only [Sts.len] at e6
          clear h1 h2 h3 h4 hBB hbl hT3l
          go_wp2_with fail
          refine (HCB.out _ (below_alloc _ _)).mono ?_
          rintro en w4 ⟨rfl, hb4⟩
          have f6 := cell_on (cell_on e6 (below_alloc w3 _)) hb4
          have HB4 := Lib.hid (below_trans HB3.out (below_new hb4))
          clear hb4 e0 e1 e5 e6
          go_wp2
          go_ret
          exact ⟨by rw [HT.out]; rfl, HN.out ▸ HB4.out⟩
        · have k4 := cat_big [32, 101, 108, 115, 101] (blkT e) (by simp) (by have := hbl.2 (by omega); omega)
          obtain ⟨EB, hEB⟩ : ∃ EB, blkT e = EB := ⟨_, rfl⟩
          have hEl : EB.length ≤ 1000000 := by rw [← hEB]; exact hbl.2 (by omega)
          have HCE : Hid (∀ w', Below w3.heap.size w3 w' → Calls Tryd.prog 29 #[.slice (some ⟨ge, 0, none⟩) e.len ce] w' fun en w'' => en = .returned (.string ⟨EB.toArray⟩) ∧ Below w'.heap.size w' w'') := Lib.hid (fun w' h' => hEB ▸ HRE.out _ ce w' ((HL.out.new HB3.out).new h') (HEV.out.on (Same.below (below_trans HB3.out h') (fun g h => h)) (fun g h => Nat.lt_of_lt_of_le h (below_trans HB3.out h').size)) (hbl.2 (by omega)))
          rw [hEB] at k4
          have k5 := cat_big T3 ([32, 101, 108, 115, 101] ++ EB) (by omega) (by simp; omega)
          have k6 := cat_big (T3 ++ ([32, 101, 108, 115, 101] ++ EB)) [10] (by simp; omega) (by simp)
          obtain ⟨T4, h4⟩ : ∃ T4 : List UInt8, [32, 101, 108, 115, 101] ++ EB = T4 := ⟨_, rfl⟩
          rw [h4] at k4 k5 k6
          obtain ⟨T5, h5⟩ : ∃ T5, T3 ++ T4 = T5 := ⟨_, rfl⟩
          rw [h5] at k5 k6
          obtain ⟨T6, h6⟩ : ∃ T6, T5 ++ [10] = T6 := ⟨_, rfl⟩
          rw [h6] at k6
          have HT : Hid (stT 16 rg nm false xs b e = T6) := Lib.hid (by rw [st_if HWH.out (by omega), HAT.out, hBB]; unfold elseT; rw [if_neg (by omega), hEB]; show [119, 104, 105, 108, 101] ++ [32] ++ AT ++ BB ++ ([32, 101, 108, 115, 101] ++ EB) ++ [10] = T6; rw [h1, h2, h3, h4, h5, h6])
          have hel' : ((e.len : Nat) : Int) > 0 := by omega
          generalize e.len = el at *
          clear h1 h2 h3 h4 h5 h6 hBB hEB hbl hT3l
          go_wp2_with fail
          refine (HCB.out _ (below_alloc _ _)).mono ?_
          rintro en w4 ⟨rfl, hb4⟩
          have f6 := cell_on (cell_on e6 (below_alloc w3 _)) hb4
          have HB34 := Lib.hid (below_new hb4)
          clear hb4 e0 e1 e5 e6
          go_wp2_with fail
          refine (HCE.out _ HB34.out).mono ?_
          rintro en w5 ⟨rfl, hb5⟩
          have HB5 := Lib.hid (below_trans HB3.out (below_trans HB34.out hb5))
          clear hb5
          go_wp2
          go_ret
          exact ⟨by rw [HT.out]; rfl, HN.out ▸ HB5.out⟩

set_option maxRecDepth 100000 in
set_option maxHeartbeats 6400000 in
theorem stmt_true (k : Nat) (rg nm : List UInt8) (xs : List Ex) (b e : Sts) (hwh : Wh k rg nm true xs) (hrb : RbOk b) (hre : RbOk e) : StOk k rg nm true xs b e := by
  intro px cx pb cb pe ce w hl hx hb he hlen
  have hst := store_cx
  have HL := Lib.hid hl
  have HX := Lib.hid hx
  have HBV := Lib.hid hb
  have HEV := Lib.hid he
  have HLEN := Lib.hid hlen
  have HWH := Lib.hid hwh
  have HRB := Lib.hid hrb
  have HRE := Lib.hid hre
  have hkd := hwh.kd
  have hxl := hwh.xlen
  obtain ⟨i0, hi, hz0, hz1, hz2⟩ := info_parts s_info
  have HI := Lib.hid hi
  have HZ0 := Lib.hid hz0
  have HZ1 := Lib.hid hz1
  have HZ2 := Lib.hid hz2
  obtain ⟨n, hn⟩ : ∃ n, w.heap.size = n := ⟨_, rfl⟩
  have HN := Lib.hid hn
  obtain ⟨ln, hln⟩ : ∃ ln, xs.length = ln := ⟨_, rfl⟩
  have HLN := Lib.hid hln
  obtain ⟨W, hW⟩ : ∃ W, w.alloc (.cells #[.int .i64 (k : Int), .string ⟨rg.toArray⟩, .string ⟨nm.toArray⟩, .bool true, .slice px xs.length cx, .slice pb b.len cb, .slice pe e.len ce, .int .i64 0] 87) = W := ⟨_, rfl⟩
  have hWb : Below w.heap.size w W := by rw [← hW]; exact below_alloc _ _
  have hWn : W.heap.size = n + 1 := by rw [← hW, ← hn]; simp
  have HWn := Lib.hid hWn
  have HWB := Lib.hid hWb
  have b0 : W.cell? ⟨n, 0, none⟩ = some (.int .i64 (k : Int)) := by rw [← hW, ← hn]; simp [go_sem]
  have b1 : W.cell? ⟨n, 1, none⟩ = some (.string ⟨rg.toArray⟩) := by rw [← hW, ← hn]; simp [go_sem]
  have b2 : W.cell? ⟨n, 2, none⟩ = some (.string ⟨nm.toArray⟩) := by rw [← hW, ← hn]; simp [go_sem]
  have b3 : W.cell? ⟨n, 3, none⟩ = some (.bool true) := by rw [← hW, ← hn]; simp [go_sem]
  have b4 : W.cell? ⟨n, 4, none⟩ = some (.slice px ln cx) := by rw [← hW, ← hn, hln]; simp [go_sem]
  have b5 : W.cell? ⟨n, 5, none⟩ = some (.slice pb b.len cb) := by rw [← hW, ← hn]; simp [go_sem]
  have b6 : W.cell? ⟨n, 6, none⟩ = some (.slice pe e.len ce) := by rw [← hW, ← hn]; simp [go_sem]
  have HX0 : Hid (Xin xs W W (.slice none 0 0) 0) := Lib.hid ⟨Below.refl _ _, World.ownsRow_nil _ _ _ _⟩
  rw [hln] at hxl
  clear hl hx hb he hlen hwh hrb hre hi hz0 hz1 hz2 hWb hWn
  unfold stv
  rw [hln] at hW ⊢
  clear hln
  go_enter Tryd.func42, Tryd.ntmps42
  go_wp2
  clear hW hn
  go_loopw [3, 13] (fun v i wr => ∃ j : Nat, j ≤ ln ∧ i = .int .i64 (j : Int) ∧ Xin xs W wr v j) (fun _ i _ => ln - (intOf i).toNat)
  case atStart => exact ⟨0, Nat.zero_le _, rfl, HX0.out⟩
  case round =>
    obtain ⟨j, hj, rfl, hXn⟩ := hrel
    have HXN := Lib.hid hXn
    clear hXn
    by_cases hlt : j < ln
    · obtain ⟨x, hx⟩ : ∃ x, xs[j]? = some x := ⟨xs[j]'(by rw [HLN.out]; exact hlt), List.getElem?_eq_getElem _⟩
      have hmem : x ∈ xs := List.mem_of_getElem? hx
      rcases HX.out with ⟨h, _⟩ | ⟨gx, hpx, hgx, _, hcx, _, hall⟩
      · rw [h] at hmem; cases hmem
      obtain ⟨q, hc, hp⟩ := hall j x hx
      have hWw : Below w.heap.size w wr := below_trans HWB.out HXN.out.bel
      have hS : Same (fun g => g < w.heap.size) w wr := Same.below hWw (fun g h => h)
      obtain ⟨c0, c1, c2, c3⟩ := hc.on hS hgx
      have hxlen : (ext x).length ≤ 1000000 := Nat.le_trans (ex_len (b := b) (e := e) HWH.out x hmem) HLEN.out
      have hcall := fun (o : Obj) => rx_any x q (wr.alloc o) ((HL.out.new hWw).new (below_alloc _ _)) (HWH.out.ex x hmem)
        (hp.on (Same.below (below_trans hWw (below_alloc wr o)) (fun g h => h)) (fun g h => by have := hWw.size; simp; omega)) hxlen
      have HC := Lib.hid hcall
      have htk : (xs.take (j + 1)).map sv = (xs.take j).map sv ++ [sv x] := by rw [List.take_add_one, hx]; simp
      have HTK := Lib.hid htk
      have hgw : gx < wr.heap.size := Nat.lt_of_lt_of_le hgx hWw.size
      unfold exv at HC
      subst hpx
      generalize opB x = s0 at *
      generalize nxB x = x0 at *
      generalize nyB x = y0 at *
      generalize nmB x = s1 at *
      generalize npB x = n0 at *
      obtain ⟨TX, hTX⟩ : ∃ TX, ext x = TX := ⟨_, rfl⟩
      rw [hTX] at HC
      have HTX := Lib.hid hTX
      clear hcall hall hc hp hS hx hWw htk hTX hxlen hmem hcx
      go_wp2_with (first
        | (go_at_call 52; refine Hid.out ?_)
        | (at_builtin; refine Hid.out ?_))
      refine Lib.hid ?_
      refine (HC.out _).mono ?_
      rintro en w2 ⟨rfl, hb2⟩
      have HB2 := Lib.hid hb2
      clear hb2 c0 c1 c2 c3
      go_wp2_with (at_builtin; refine Hid.out ?_)
      refine Lib.hid ?_
      have hwo : w2.ownsRow W.heap.size 9 1 u3 j ((xs.take j).map sv) := own_below HXN.out.own (below_new HB2.out)
      have hsz : W.heap.size ≤ w2.heap.size := Nat.le_trans HXN.out.bel.size (below_new HB2.out).size
      refine wpList_append_own_at _ rfl (.tmp 17) (.tmp 20) 24 rfl W.heap.size 9 i0 _ 1 16 Tryd.underlying24 HI.out HZ0.out HZ1.out HZ2.out rfl (by decide) u3 j ((xs.take j).map sv) rfl (hwo.alloc _) ⟨w2.heap.size, 0, Option.none⟩ 1 1 [.string ⟨TX.toArray⟩] rfl rfl
        (new_cells w2 [.string ⟨TX.toArray⟩] 9) (s_one _) (by unfold maxLen; omega) (by omega) (by simp; omega) ?_
      intro v3 w3 hown3 hgr3 _ _
      have hbel3 : Below W.heap.size W w3 := ((HXN.out.bel.trans ((below_new HB2.out).mono HXN.out.bel.size)).alloc hsz _).grown hgr3 (by simp; omega) (fun q hq => (hwo.lt q hq).1)
      have HX3 : Hid (Xin xs W w3 v3 (j + 1)) := Lib.hid ⟨hbel3, by rw [HTK.out]; unfold sv; rw [HTX.out]; exact hown3⟩
      clear hwo hsz hown3 hgr3 hbel3
      go_wp2
      go_roundw
      case rel => exact ⟨j + 1, by omega, by go_num, HX3.out⟩
      case measure => simp [intOf]; omega
    · obtain rfl : j = ln := by omega
      have hform := xin_form HXN.out HLN.out.symm
      rw [HLN.out] at hform
      have hWr := HXN.out.bel
      have d0 := cell_on b0 hWr
      have d1 := cell_on b1 hWr
      have d2 := cell_on b2 hWr
      have d3 := cell_on b3 hWr
      have d5 := cell_on b5 hWr
      have d6 := cell_on b6 hWr
      clear b0 b1 b2 b3 b4 b5 b6 hlt hj
      have HWR := Lib.hid hWr
      clear hWr
      rcases hform with ⟨_, hnil⟩ | ⟨g, cap, rfl, hg, hcap, hmx, hcell⟩
      · have := HWH.out.many; rw [hnil] at this; simp at this
      obtain ⟨x0, xr, hxs⟩ : ∃ x0 xr, xs = x0 :: xr := by
        cases hxx : xs with
        | nil => have := HWH.out.many; rw [hxx] at this; simp at this
        | cons x0 xr => exact ⟨x0, xr, rfl⟩
      have hj1 : 1 ≤ j := by rw [← HLN.out, hxs]; simp
      have hc0 : wr.cell? ⟨g, 0, none⟩ = some (.string ⟨(ext x0).toArray⟩) := hcell 0 x0 (by rw [hxs]; rfl)
      obtain ⟨X, hX, hX1⟩ := tail24 g j cap hj1 hcap
      have HCJ : Hid (∀ w', Below wr.heap.size wr w' → Calls Tryd.prog 53 #[.slice X (j - 1) (cap - 1), .string ⟨#[44, 32]⟩] w' fun en w'' => en = .returned (.string ⟨(atT true xs).toArray⟩) ∧ Below w'.heap.size w' w'') := Lib.hid (by
        intro w' hb'
        have hat : atT true xs = Lib.join (xr.map ext) [44, 32] := by rw [hxs]; rfl
        by_cases h2 : 2 ≤ j
        · rw [hX1 h2]
          have hlr : xr.length = j - 1 := by rw [← HLN.out, hxs]; simp
          have hj := Tryd.strings_Join g 1 (cap - 1) (xr.map fun x => ⟨(ext x).toArray⟩) ⟨#[44, 32]⟩ w' (by
              intro i y hy
              rw [List.getElem?_map] at hy
              cases hxi : xr[i]? with
              | none => rw [hxi] at hy; cases hy
              | some x =>
                rw [hxi] at hy
                injection hy with hy
                subst hy
                have := hcell (i + 1) x (by rw [hxs]; simpa using hxi)
                rw [show 1 + i = i + 1 by omega]
                exact (cell_on this hb')) (Nat.lt_of_lt_of_le hg hb'.size) (by simp; omega) (by simp; omega) (by
              have h1 := at_len (b := b) (e := e) HWH.out
              have h2 := HLEN.out
              rw [hat] at h1
              rw [List.map_map]
              refine Nat.le_trans (Nat.le_of_eq ?_) (Nat.le_trans h1 (by omega))
              rfl)
          rw [List.length_map, hlr] at hj
          refine hj.mono fun en w'' ⟨h1, h2⟩ => ⟨?_, h2⟩
          rw [h1, hat, List.map_map]
          rfl
        · have hlr : xr = [] := List.length_eq_zero_iff.1 (by have := HLN.out; rw [hxs] at this; simp at this; omega)
          have hj0 : j - 1 = 0 := by omega
          rw [hj0]
          exact (Tryd.strings_Join_none X (cap - 1) ⟨#[44, 32]⟩ w').mono fun en w'' ⟨h1, h2⟩ => ⟨by rw [h1, hat, hlr]; rfl, by rw [h2]; exact Below.refl _ _⟩)
      obtain ⟨AT, hAT⟩ : ∃ AT, atT true xs = AT := ⟨_, rfl⟩
      have hatl : AT.length ≤ 1000000 := by rw [← hAT]; exact Nat.le_trans (at_len (b := b) (e := e) HWH.out) HLEN.out
      rw [hAT] at HCJ
      have HAT := Lib.hid hAT
      have hnml := HWH.out.name.len
      have hx0l : (ext x0).length ≤ 1000000 := Nat.le_trans (ex_len (b := b) (e := e) HWH.out x0 (by rw [hxs]; simp)) HLEN.out
      have m1 := cat_big nm [91] (by omega) (by simp)
      have m2 := cat_big (nm ++ [91]) (ext x0) (by simp; omega) (by omega)
      have m3 := cat_big (nm ++ [91] ++ ext x0) [93] (by simp; omega) (by simp)
      obtain ⟨M1, hm1⟩ : ∃ M1, nm ++ [91] = M1 := ⟨_, rfl⟩
      rw [hm1] at m1 m2 m3
      obtain ⟨E0, hE0⟩ : ∃ E0, ext x0 = E0 := ⟨_, rfl⟩
      rw [hE0] at m2 m3 hc0
      obtain ⟨M2, hm2⟩ : ∃ M2, M1 ++ E0 = M2 := ⟨_, rfl⟩
      rw [hm2] at m2 m3
      obtain ⟨NT, hNT⟩ : ∃ NT, M2 ++ [93] = NT := ⟨_, rfl⟩
      rw [hNT] at m3
      have HNT : Hid (ntT nm true xs = NT) := Lib.hid (by rw [hxs]; show nm ++ [91] ++ ext x0 ++ [93] = NT; rw [hm1, hE0, hm2, hNT])
      have hntl : NT.length ≤ 1100000 := by rw [← hNT, ← hm2, ← hm1, ← hE0]; simp; omega
      have hrgl : rg.length ≤ 1 := HWH.out.rlen
      have hj0 : (0 : Int) < (j : Int) := by omega
      have hj0' : 0 < j := by omega
      clear hAT hNT hm1 hm2 hE0 hxs hX1 hcell hmx hnml hx0l
      go_wp2_with fail
      go_quiet (fail)
      go_wp2_with fail
      refine (HCJ.out _ (below_drewN (Below.refl _ _) _)).mono ?_
      rintro en w3 ⟨rfl, hb3⟩
      have hb3' : Below wr.heap.size wr w3 := below_trans (below_drewN (Below.refl _ _) _) hb3
      have HB3 := Lib.hid (below_trans (below_trans HWB.out HWR.out) hb3')
      have e0 := cell_on d0 hb3'
      have e1 := cell_on d1 hb3'
      have e5 := cell_on d5 hb3'
      have e6 := cell_on d6 hb3'
      have hnw : n < w3.heap.size := lt_of_cell e0
      clear d0 d1 d2 d3 d5 d6 hb3 hb3' HCJ
      obtain rfl | rfl | rfl | rfl | rfl : k = 1 ∨ k = 2 ∨ k = 3 ∨ k = 4 ∨ k = 5 := by have := HWH.out.cell rfl; omega
      · have k1 := cat_big rg [32, 61, 32] (by first | omega | (simp only [List.length_append, List.length_cons, List.length_nil]; omega)) (by first | omega | (simp only [List.length_append, List.length_cons, List.length_nil]; omega))
        have k2 := cat_big (rg ++ [32, 61, 32]) [108, 111, 97, 100] (by first | omega | (simp only [List.length_append, List.length_cons, List.length_nil]; omega)) (by first | omega | (simp only [List.length_append, List.length_cons, List.length_nil]; omega))
        have k3 := cat_big (rg ++ [32, 61, 32] ++ [108, 111, 97, 100]) [32] (by first | omega | (simp only [List.length_append, List.length_cons, List.length_nil]; omega)) (by first | omega | (simp only [List.length_append, List.length_cons, List.length_nil]; omega))
        have k4 := cat_big (rg ++ [32, 61, 32] ++ [108, 111, 97, 100] ++ [32]) NT (by first | omega | (simp only [List.length_append, List.length_cons, List.length_nil]; omega)) (by first | omega | (simp only [List.length_append, List.length_cons, List.length_nil]; omega))
        have k5 := cat_big (rg ++ [32, 61, 32] ++ [108, 111, 97, 100] ++ [32] ++ NT) [59, 10] (by first | omega | (simp only [List.length_append, List.length_cons, List.length_nil]; omega)) (by first | omega | (simp only [List.length_append, List.length_cons, List.length_nil]; omega))
        obtain ⟨T1, h1⟩ : ∃ T1 : List UInt8, rg ++ [32, 61, 32] = T1 := ⟨_, rfl⟩
        rw [h1] at k1 k2 k3 k4 k5
        obtain ⟨T2, h2⟩ : ∃ T2 : List UInt8, T1 ++ [108, 111, 97, 100] = T2 := ⟨_, rfl⟩
        rw [h2] at k2 k3 k4 k5
        obtain ⟨T3, h3⟩ : ∃ T3 : List UInt8, T2 ++ [32] = T3 := ⟨_, rfl⟩
        rw [h3] at k3 k4 k5
        obtain ⟨T4, h4⟩ : ∃ T4 : List UInt8, T3 ++ NT = T4 := ⟨_, rfl⟩
        rw [h4] at k4 k5
        obtain ⟨T5, h5⟩ : ∃ T5 : List UInt8, T4 ++ [59, 10] = T5 := ⟨_, rfl⟩
        rw [h5] at k5
        have HT : Hid (stT 1 rg nm true xs b e = T5) := Lib.hid (by rw [st_give0 HWH.out (by decide) (by decide) (by decide) (by omega)]; show rg ++ [32, 61, 32] ++ word 1 ++ [32] ++ ntT nm true xs ++ [59, 10] = T5; rw [HNT.out]; exact (show rg ++ [32, 61, 32] ++ [108, 111, 97, 100] ++ [32] ++ NT ++ [59, 10] = T5 by rw [h1, h2, h3, h4, h5]))
        clear h1 h2 h3 h4 h5
        go_wp2
        go_ret
        exact ⟨by rw [HT.out]; rfl, HN.out ▸ (HB3.out.alloc HB3.out.size _)⟩
      · have k1 := cat_big [115, 116, 111, 114, 101, 32] NT (by first | omega | (simp only [List.length_append, List.length_cons, List.length_nil]; omega)) (by first | omega | (simp only [List.length_append, List.length_cons, List.length_nil]; omega))
        have k2 := cat_big ([115, 116, 111, 114, 101, 32] ++ NT) [44, 32] (by first | omega | (simp only [List.length_append, List.length_cons, List.length_nil]; omega)) (by first | omega | (simp only [List.length_append, List.length_cons, List.length_nil]; omega))
        have k3 := cat_big ([115, 116, 111, 114, 101, 32] ++ NT ++ [44, 32]) AT (by first | omega | (simp only [List.length_append, List.length_cons, List.length_nil]; omega)) (by first | omega | (simp only [List.length_append, List.length_cons, List.length_nil]; omega))
        have k4 := cat_big ([115, 116, 111, 114, 101, 32] ++ NT ++ [44, 32] ++ AT) [59, 10] (by first | omega | (simp only [List.length_append, List.length_cons, List.length_nil]; omega)) (by first | omega | (simp only [List.length_append, List.length_cons, List.length_nil]; omega))
        obtain ⟨T1, h1⟩ : ∃ T1 : List UInt8, [115, 116, 111, 114, 101, 32] ++ NT = T1 := ⟨_, rfl⟩
        rw [h1] at k1 k2 k3 k4
        obtain ⟨T2, h2⟩ : ∃ T2 : List UInt8, T1 ++ [44, 32] = T2 := ⟨_, rfl⟩
        rw [h2] at k2 k3 k4
        obtain ⟨T3, h3⟩ : ∃ T3 : List UInt8, T2 ++ AT = T3 := ⟨_, rfl⟩
        rw [h3] at k3 k4
        obtain ⟨T4, h4⟩ : ∃ T4 : List UInt8, T3 ++ [59, 10] = T4 := ⟨_, rfl⟩
        rw [h4] at k4
        have HT : Hid (stT 2 rg nm true xs b e = T4) := Lib.hid (by rw [st_store HWH.out]; show [115, 116, 111, 114, 101, 32] ++ ntT nm true xs ++ [44, 32] ++ atT true xs ++ [59, 10] = T4; rw [HNT.out, HAT.out]; exact (show [115, 116, 111, 114, 101, 32] ++ NT ++ [44, 32] ++ AT ++ [59, 10] = T4 by rw [h1, h2, h3, h4]))
        clear h1 h2 h3 h4
        go_wp2
        go_ret
        exact ⟨by rw [HT.out]; rfl, HN.out ▸ (HB3.out.alloc HB3.out.size _)⟩
      · have k1 := cat_big rg [32, 61, 32] (by first | omega | (simp only [List.length_append, List.length_cons, List.length_nil]; omega)) (by first | omega | (simp only [List.length_append, List.length_cons, List.length_nil]; omega))
        have k2 := cat_big (rg ++ [32, 61, 32]) [97, 100, 100] (by first | omega | (simp only [List.length_append, List.length_cons, List.length_nil]; omega)) (by first | omega | (simp only [List.length_append, List.length_cons, List.length_nil]; omega))
        have k3 := cat_big (rg ++ [32, 61, 32] ++ [97, 100, 100]) [32] (by first | omega | (simp only [List.length_append, List.length_cons, List.length_nil]; omega)) (by first | omega | (simp only [List.length_append, List.length_cons, List.length_nil]; omega))
        have k4 := cat_big (rg ++ [32, 61, 32] ++ [97, 100, 100] ++ [32]) NT (by first | omega | (simp only [List.length_append, List.length_cons, List.length_nil]; omega)) (by first | omega | (simp only [List.length_append, List.length_cons, List.length_nil]; omega))
        have k5 := cat_big (rg ++ [32, 61, 32] ++ [97, 100, 100] ++ [32] ++ NT) [44, 32] (by first | omega | (simp only [List.length_append, List.length_cons, List.length_nil]; omega)) (by first | omega | (simp only [List.length_append, List.length_cons, List.length_nil]; omega))
        have k6 := cat_big (rg ++ [32, 61, 32] ++ [97, 100, 100] ++ [32] ++ NT ++ [44, 32]) AT (by first | omega | (simp only [List.length_append, List.length_cons, List.length_nil]; omega)) (by first | omega | (simp only [List.length_append, List.length_cons, List.length_nil]; omega))
        have k7 := cat_big (rg ++ [32, 61, 32] ++ [97, 100, 100] ++ [32] ++ NT ++ [44, 32] ++ AT) [59, 10] (by first | omega | (simp only [List.length_append, List.length_cons, List.length_nil]; omega)) (by first | omega | (simp only [List.length_append, List.length_cons, List.length_nil]; omega))
        obtain ⟨T1, h1⟩ : ∃ T1 : List UInt8, rg ++ [32, 61, 32] = T1 := ⟨_, rfl⟩
        rw [h1] at k1 k2 k3 k4 k5 k6 k7
        obtain ⟨T2, h2⟩ : ∃ T2 : List UInt8, T1 ++ [97, 100, 100] = T2 := ⟨_, rfl⟩
        rw [h2] at k2 k3 k4 k5 k6 k7
        obtain ⟨T3, h3⟩ : ∃ T3 : List UInt8, T2 ++ [32] = T3 := ⟨_, rfl⟩
        rw [h3] at k3 k4 k5 k6 k7
        obtain ⟨T4, h4⟩ : ∃ T4 : List UInt8, T3 ++ NT = T4 := ⟨_, rfl⟩
        rw [h4] at k4 k5 k6 k7
        obtain ⟨T5, h5⟩ : ∃ T5 : List UInt8, T4 ++ [44, 32] = T5 := ⟨_, rfl⟩
        rw [h5] at k5 k6 k7
        obtain ⟨T6, h6⟩ : ∃ T6 : List UInt8, T5 ++ AT = T6 := ⟨_, rfl⟩
        rw [h6] at k6 k7
        obtain ⟨T7, h7⟩ : ∃ T7 : List UInt8, T6 ++ [59, 10] = T7 := ⟨_, rfl⟩
        rw [h7] at k7
        have HT : Hid (stT 3 rg nm true xs b e = T7) := Lib.hid (by rw [st_give1 HWH.out (by decide) (by decide) (by decide) (by omega)]; show rg ++ [32, 61, 32] ++ word 3 ++ [32] ++ ntT nm true xs ++ [44, 32] ++ atT true xs ++ [59, 10] = T7; rw [HNT.out, HAT.out]; exact (show rg ++ [32, 61, 32] ++ [97, 100, 100] ++ [32] ++ NT ++ [44, 32] ++ AT ++ [59, 10] = T7 by rw [h1, h2, h3, h4, h5, h6, h7]))
        clear h1 h2 h3 h4 h5 h6 h7
        go_wp2
        go_ret
        exact ⟨by rw [HT.out]; rfl, HN.out ▸ (HB3.out.alloc HB3.out.size _)⟩
      · have k1 := cat_big rg [32, 61, 32] (by first | omega | (simp only [List.length_append, List.length_cons, List.length_nil]; omega)) (by first | omega | (simp only [List.length_append, List.length_cons, List.length_nil]; omega))
        have k2 := cat_big (rg ++ [32, 61, 32]) [115, 119, 97, 112] (by first | omega | (simp only [List.length_append, List.length_cons, List.length_nil]; omega)) (by first | omega | (simp only [List.length_append, List.length_cons, List.length_nil]; omega))
        have k3 := cat_big (rg ++ [32, 61, 32] ++ [115, 119, 97, 112]) [32] (by first | omega | (simp only [List.length_append, List.length_cons, List.length_nil]; omega)) (by first | omega | (simp only [List.length_append, List.length_cons, List.length_nil]; omega))
        have k4 := cat_big (rg ++ [32, 61, 32] ++ [115, 119, 97, 112] ++ [32]) NT (by first | omega | (simp only [List.length_append, List.length_cons, List.length_nil]; omega)) (by first | omega | (simp only [List.length_append, List.length_cons, List.length_nil]; omega))
        have k5 := cat_big (rg ++ [32, 61, 32] ++ [115, 119, 97, 112] ++ [32] ++ NT) [44, 32] (by first | omega | (simp only [List.length_append, List.length_cons, List.length_nil]; omega)) (by first | omega | (simp only [List.length_append, List.length_cons, List.length_nil]; omega))
        have k6 := cat_big (rg ++ [32, 61, 32] ++ [115, 119, 97, 112] ++ [32] ++ NT ++ [44, 32]) AT (by first | omega | (simp only [List.length_append, List.length_cons, List.length_nil]; omega)) (by first | omega | (simp only [List.length_append, List.length_cons, List.length_nil]; omega))
        have k7 := cat_big (rg ++ [32, 61, 32] ++ [115, 119, 97, 112] ++ [32] ++ NT ++ [44, 32] ++ AT) [59, 10] (by first | omega | (simp only [List.length_append, List.length_cons, List.length_nil]; omega)) (by first | omega | (simp only [List.length_append, List.length_cons, List.length_nil]; omega))
        obtain ⟨T1, h1⟩ : ∃ T1 : List UInt8, rg ++ [32, 61, 32] = T1 := ⟨_, rfl⟩
        rw [h1] at k1 k2 k3 k4 k5 k6 k7
        obtain ⟨T2, h2⟩ : ∃ T2 : List UInt8, T1 ++ [115, 119, 97, 112] = T2 := ⟨_, rfl⟩
        rw [h2] at k2 k3 k4 k5 k6 k7
        obtain ⟨T3, h3⟩ : ∃ T3 : List UInt8, T2 ++ [32] = T3 := ⟨_, rfl⟩
        rw [h3] at k3 k4 k5 k6 k7
        obtain ⟨T4, h4⟩ : ∃ T4 : List UInt8, T3 ++ NT = T4 := ⟨_, rfl⟩
        rw [h4] at k4 k5 k6 k7
        obtain ⟨T5, h5⟩ : ∃ T5 : List UInt8, T4 ++ [44, 32] = T5 := ⟨_, rfl⟩
        rw [h5] at k5 k6 k7
        obtain ⟨T6, h6⟩ : ∃ T6 : List UInt8, T5 ++ AT = T6 := ⟨_, rfl⟩
        rw [h6] at k6 k7
        obtain ⟨T7, h7⟩ : ∃ T7 : List UInt8, T6 ++ [59, 10] = T7 := ⟨_, rfl⟩
        rw [h7] at k7
        have HT : Hid (stT 4 rg nm true xs b e = T7) := Lib.hid (by rw [st_give1 HWH.out (by decide) (by decide) (by decide) (by omega)]; show rg ++ [32, 61, 32] ++ word 4 ++ [32] ++ ntT nm true xs ++ [44, 32] ++ atT true xs ++ [59, 10] = T7; rw [HNT.out, HAT.out]; exact (show rg ++ [32, 61, 32] ++ [115, 119, 97, 112] ++ [32] ++ NT ++ [44, 32] ++ AT ++ [59, 10] = T7 by rw [h1, h2, h3, h4, h5, h6, h7]))
        clear h1 h2 h3 h4 h5 h6 h7
        go_wp2
        go_ret
        exact ⟨by rw [HT.out]; rfl, HN.out ▸ (HB3.out.alloc HB3.out.size _)⟩
      · have k1 := cat_big rg [32, 61, 32] (by first | omega | (simp only [List.length_append, List.length_cons, List.length_nil]; omega)) (by first | omega | (simp only [List.length_append, List.length_cons, List.length_nil]; omega))
        have k2 := cat_big (rg ++ [32, 61, 32]) [99, 97, 115] (by first | omega | (simp only [List.length_append, List.length_cons, List.length_nil]; omega)) (by first | omega | (simp only [List.length_append, List.length_cons, List.length_nil]; omega))
        have k3 := cat_big (rg ++ [32, 61, 32] ++ [99, 97, 115]) [32] (by first | omega | (simp only [List.length_append, List.length_cons, List.length_nil]; omega)) (by first | omega | (simp only [List.length_append, List.length_cons, List.length_nil]; omega))
        have k4 := cat_big (rg ++ [32, 61, 32] ++ [99, 97, 115] ++ [32]) NT (by first | omega | (simp only [List.length_append, List.length_cons, List.length_nil]; omega)) (by first | omega | (simp only [List.length_append, List.length_cons, List.length_nil]; omega))
        have k5 := cat_big (rg ++ [32, 61, 32] ++ [99, 97, 115] ++ [32] ++ NT) [44, 32] (by first | omega | (simp only [List.length_append, List.length_cons, List.length_nil]; omega)) (by first | omega | (simp only [List.length_append, List.length_cons, List.length_nil]; omega))
        have k6 := cat_big (rg ++ [32, 61, 32] ++ [99, 97, 115] ++ [32] ++ NT ++ [44, 32]) AT (by first | omega | (simp only [List.length_append, List.length_cons, List.length_nil]; omega)) (by first | omega | (simp only [List.length_append, List.length_cons, List.length_nil]; omega))
        have k7 := cat_big (rg ++ [32, 61, 32] ++ [99, 97, 115] ++ [32] ++ NT ++ [44, 32] ++ AT) [59, 10] (by first | omega | (simp only [List.length_append, List.length_cons, List.length_nil]; omega)) (by first | omega | (simp only [List.length_append, List.length_cons, List.length_nil]; omega))
        obtain ⟨T1, h1⟩ : ∃ T1 : List UInt8, rg ++ [32, 61, 32] = T1 := ⟨_, rfl⟩
        rw [h1] at k1 k2 k3 k4 k5 k6 k7
        obtain ⟨T2, h2⟩ : ∃ T2 : List UInt8, T1 ++ [99, 97, 115] = T2 := ⟨_, rfl⟩
        rw [h2] at k2 k3 k4 k5 k6 k7
        obtain ⟨T3, h3⟩ : ∃ T3 : List UInt8, T2 ++ [32] = T3 := ⟨_, rfl⟩
        rw [h3] at k3 k4 k5 k6 k7
        obtain ⟨T4, h4⟩ : ∃ T4 : List UInt8, T3 ++ NT = T4 := ⟨_, rfl⟩
        rw [h4] at k4 k5 k6 k7
        obtain ⟨T5, h5⟩ : ∃ T5 : List UInt8, T4 ++ [44, 32] = T5 := ⟨_, rfl⟩
        rw [h5] at k5 k6 k7
        obtain ⟨T6, h6⟩ : ∃ T6 : List UInt8, T5 ++ AT = T6 := ⟨_, rfl⟩
        rw [h6] at k6 k7
        obtain ⟨T7, h7⟩ : ∃ T7 : List UInt8, T6 ++ [59, 10] = T7 := ⟨_, rfl⟩
        rw [h7] at k7
        have HT : Hid (stT 5 rg nm true xs b e = T7) := Lib.hid (by rw [st_give1 HWH.out (by decide) (by decide) (by decide) (by omega)]; show rg ++ [32, 61, 32] ++ word 5 ++ [32] ++ ntT nm true xs ++ [44, 32] ++ atT true xs ++ [59, 10] = T7; rw [HNT.out, HAT.out]; exact (show rg ++ [32, 61, 32] ++ [99, 97, 115] ++ [32] ++ NT ++ [44, 32] ++ AT ++ [59, 10] = T7 by rw [h1, h2, h3, h4, h5, h6, h7]))
        clear h1 h2 h3 h4 h5 h6 h7
        go_wp2
        go_ret
        exact ⟨by rw [HT.out]; rfl, HN.out ▸ (HB3.out.alloc HB3.out.size _)⟩

theorem rs_any (b : Sts) : Ws b → RsOk b := by
  induction b with
  | nil => intro _; trivial
  | cons k rg nm ix xs b e r ihb ihe ihr =>
    intro h
    refine ⟨?_, ihr h.2.2.2.2.2⟩
    have hb := block_any b (ihb h.2.2.2.1)
    have he := block_any e (ihe h.2.2.2.2.1)
    cases ix with
    | false => exact stmt_false k rg nm xs b e h.1 hb he
    | true => exact stmt_true k rg nm xs b e h.1 hb he
theorem rb_any (b : Sts) (h : Ws b) : RbOk b := block_any b (rs_any b h)

end Go.Proofs.YtmomdcnlhljhcaaDoor
