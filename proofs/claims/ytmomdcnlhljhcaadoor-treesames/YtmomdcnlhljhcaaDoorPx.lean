/- tree.firstGap, printExprs, printBlock (once its statements are printed). -/
import Derived.Test.YtmomdcnlhljhcaaDoorEt
import Derived.Test.YtmomdcnlhljhcaaDoorSf
import Derived.Test.YtmomdcnlhljhcaaDoorRb
set_option linter.unusedSimpArgs false
set_option linter.unusedVariables false
namespace Go.Proofs.YtmomdcnlhljhcaaDoor
open Go.RowKit Ieee

set_option maxRecDepth 100000 in
theorem gap_any (k : Nat) (hk : k < 17) (w : World) (hl : Lb w) : Calls Tryd.prog 67 #[.int .i64 (k : Int)] w fun e w' => e = .returned (.string ⟨(gap1 k).toArray⟩) ∧ w = w' := by
  have HN := Lib.hid (fun w => named_any k hk w)
  have HW := Lib.hid (fun w hl => kword_any k hk w hl)
  have HL := Lib.hid hl
  clear hl
  revert k
  refine nat17 ?_ ?_ ?_ ?_ ?_ ?_ ?_ ?_ ?_ ?_ ?_ ?_ ?_ ?_ ?_ ?_ ?_
  all_goals
    intro HN HW
    simp only [named, word] at HN HW
    go_enter Tryd.func67, Tryd.ntmps67
    go_wp2_with (first
      | (go_at_call 11; refine (HN.out _).mono ?_; rintro e w' ⟨rfl, rfl⟩)
      | (go_at_call 8; refine (HW.out _ HL.out).mono ?_; rintro e w' ⟨rfl, rfl⟩))
    go_ret
    exact ⟨rfl, rfl⟩

/-- The gap ahead of the expression at place j. -/
def gp (k j : Nat) : List UInt8 := if j = 0 then gap1 k else [44, 32]
theorem exsT_snoc (g : List UInt8) (a : List Ex) (x : Ex) : exsT g (a ++ [x]) = exsT g a ++ ((if a.length = 0 then g else [44, 32]) ++ ext x) := by
  induction a generalizing g with
  | nil => simp [exsT]
  | cons y l ih =>
    rw [List.cons_append, exsT, ih, exsT]
    cases l <;> simp [exsT]
theorem exsT_mono (g : List UInt8) (a b : List Ex) : (exsT g a).length ≤ (exsT g (a ++ b)).length := by
  induction a generalizing g with
  | nil => simp [exsT]
  | cons y l ih => simp only [List.cons_append, exsT, List.length_append]; have := ih [44, 32]; omega
/-- Where expressions lie, from a place on. -/
def XsP (w : World) (B : Nat) (xs : List Ex) (X : Option Addr) (g o : Nat) : Prop := g < B ∧ (xs ≠ [] → X = some ⟨g, o, none⟩) ∧ ∀ i e, xs[i]? = some e → ∃ q, Cx w g (o + i * 4) e q ∧ Px w (fun g => g < B) e q
theorem gap1_len (k : Nat) : (gap1 k).length ≤ 2 := by unfold gap1; split; simp; split <;> simp

set_option maxRecDepth 100000 in
set_option maxHeartbeats 3200000 in
theorem pexprs_any (B b : Nat) (l : List UInt8) (k : Nat) (hk : k < 17) (xs : List Ex) (X : Option Addr) (g o c : Nat) (w : World) (hl : Lb w) (hB : B ≤ w.heap.size) (h7 : 7 ≤ B) (hbu : Bu B b l w) (hx : XsP w B xs X g o) (hw : ∀ x ∈ xs, Wx x)
    (hlen : l.length + (exsT (gap1 k) xs).length ≤ 1000000) (hmany : xs.length ≤ 3) :
    Calls Tryd.prog 58 #[.pointer (some ⟨b, 0, none⟩), .int .i64 (k : Int), .slice X xs.length c] w fun e w' => e = .returned (.tuple #[]) ∧ Wro B b (l ++ exsT (gap1 k) xs) w w' := by
  have hst := store_cx
  have HL := Lib.hid hl
  have HX := Lib.hid hx
  have HW := Lib.hid hw
  have HLEN := Lib.hid hlen
  have HW0 : Hid (Wro B b (l ++ exsT (gap1 k) (xs.take 0)) w w) := Lib.hid (by simpa [exsT] using Wro.refl hbu)
  obtain ⟨ln, hln⟩ : ∃ ln, xs.length = ln := ⟨_, rfl⟩
  have HLN := Lib.hid hln
  rw [hln] at hmany ⊢
  clear hl hx hw hlen hln hbu
  go_enter Tryd.func58, Tryd.ntmps58
  go_wp2_with fail
  refine (gap_any k hk w HL.out).mono ?_
  rintro e w' ⟨rfl, rfl⟩
  go_wp2
  go_loopw [6, 13] (fun s i wr => ∃ (j : Nat) (G T : List UInt8), j ≤ ln ∧ i = .int .i64 (j : Int) ∧ s = .string ⟨G.toArray⟩ ∧ G = gp k j ∧ T = l ++ exsT (gap1 k) (xs.take j) ∧ Wro B b T w wr) (fun _ i _ => ln - (intOf i).toNat)
  case atStart => exact ⟨0, gap1 k, _, Nat.zero_le _, rfl, rfl, rfl, rfl, HW0.out⟩
  case round =>
    obtain ⟨j, G, T, hj, rfl, rfl, hG, hT, hwr⟩ := hrel
    have HG := Lib.hid hG
    have HT := Lib.hid hT
    have HWR := Lib.hid hwr
    have hGl : G.length ≤ 2 := by rw [hG]; unfold gp; split; exact gap1_len k; simp
    clear hG hT hwr
    by_cases hlt : j < ln
    · obtain ⟨x, hxj⟩ : ∃ x, xs[j]? = some x := ⟨xs[j]'(by rw [HLN.out]; exact hlt), List.getElem?_eq_getElem _⟩
      have hmem : x ∈ xs := List.mem_of_getElem? hxj
      obtain ⟨hg, hX, hall⟩ := HX.out
      obtain rfl := hX (by intro h; rw [h] at hmem; cases hmem)
      obtain ⟨q, hc, hp⟩ := hall j x hxj
      have hS : Same (fun g => g < B) w wr := Same.below HWR.out.bel (fun g h => h)
      obtain ⟨c0, c1, c2, c3⟩ := hc.on hS hg
      have hBr : B ≤ wr.heap.size := HWR.out.size hB
      have hgw : g < wr.heap.size := by omega
      have htk : xs.take (j + 1) = xs.take j ++ [x] := by rw [List.take_add_one, hxj]; rfl
      have hstep : T ++ (G ++ ext x) = l ++ exsT (gap1 k) (xs.take (j + 1)) := by
        rw [htk, exsT_snoc, HT.out, HG.out, List.append_assoc]
        congr 3
        unfold gp
        rw [List.length_take, HLN.out, Nat.min_eq_left hj]
      have hle : (exsT (gap1 k) (xs.take (j + 1))).length ≤ (exsT (gap1 k) xs).length := by
        have := exsT_mono (gap1 k) (xs.take (j + 1)) (xs.drop (j + 1)); rw [List.take_append_drop] at this; exact this
      have htot : T.length + (G ++ ext x).length ≤ 1000000 := by
        have := congrArg List.length hstep; simp only [List.length_append] at this ⊢; have := HLEN.out; omega
      have hxl : (ext x).length ≤ 1000000 := by simp only [List.length_append] at htot; omega
      have hlb : Lb wr := HL.out.on HWR.out.bel h7
      have hcall := fun (o : Obj) => etext_any x q (wr.alloc o) (hlb.new (below_alloc _ _)) (HW.out x hmem) (hp.on (Same.below (HWR.out.bel.trans ((below_alloc wr o).mono hBr)) (fun g h => h)) (fun g h => by simp; omega)) hxl
      have HC := Lib.hid hcall
      have HSTEP := Lib.hid hstep
      have hcat := cat_big G (ext x) (by omega) (by omega)
      have HTOT := Lib.hid htot
      unfold exv at HC
      generalize opB x = s0 at *
      generalize nxB x = x0 at *
      generalize nyB x = y0 at *
      generalize nmB x = s1 at *
      generalize npB x = n0 at *
      obtain ⟨GX, hGX⟩ : ∃ GX, G ++ ext x = GX := ⟨_, rfl⟩
      rw [hGX] at hcat HSTEP HTOT
      clear hcall hall hX hc hp hS htk hstep hle htot hxl hlb hxj hmem hGX
      go_wp2_with fail
      refine (HC.out _).mono ?_
      rintro e w2 ⟨rfl, hb2⟩
      have HB2 := Lib.hid (below_new hb2)
      clear hb2 c0 c1 c2 c3
      go_wp2_with fail
      have hbu2 : Wro B b T w w2 := HWR.out.below hBr HB2.out
      refine (write_list B b T GX w2 hbu2.bu (by have := HTOT.out; omega) (hbu2.size hB)).mono ?_
      rintro e w3 ⟨rfl, hw3⟩
      have HW3 := Lib.hid (hbu2.trans hw3)
      clear hw3 hbu2
      go_wp2
      go_roundw
      case rel => exact ⟨j + 1, [44, 32], _, by omega, by go_num, rfl, by unfold gp; rw [if_neg (by omega)], HSTEP.out, HW3.out⟩
      case measure => simp [intOf]; omega
    · obtain rfl : j = ln := by omega
      have hfin : T = l ++ exsT (gap1 k) xs := by rw [HT.out, List.take_of_length_le (by rw [HLN.out]; omega)]
      have HF := Lib.hid hfin
      clear hfin
      go_wp2
      go_end0
      exact ⟨rfl, HF.out ▸ HWR.out⟩

/-- tree.printStmt writes the statement's text. -/
def PsOk (k : Nat) (rg nm : List UInt8) (ix : Bool) (xs : List Ex) (bd es : Sts) : Prop := ∀ (B b : Nat) (l : List UInt8) (px : Option Addr) (cx : Nat) (pb : Option Addr) (cb : Nat) (pe : Option Addr) (ce : Nat) (w : World), Lb w → B ≤ w.heap.size → 7 ≤ B → Bu B b l w →
  XsV w (fun g => g < B) xs px cx → StsV w (fun g => g < B) bd pb cb → StsV w (fun g => g < B) es pe ce → l.length + (stT k rg nm ix xs bd es).length ≤ 1000000 →
  Calls Tryd.prog 47 #[.pointer (some ⟨b, 0, none⟩), stv k rg nm ix px xs.length cx pb bd.len cb pe es.len ce] w fun e w' => e = .returned (.tuple #[]) ∧ Wro B b (l ++ stT k rg nm ix xs bd es) w w'
def PaOk : Sts → Prop
  | .nil => True
  | .cons k rg nm ix xs b e r => PsOk k rg nm ix xs b e ∧ PaOk r
/-- tree.printBlock writes the block's text. -/
def PbOk (bd : Sts) : Prop := ∀ (B b : Nat) (l : List UInt8) (p : Option Addr) (c : Nat) (w : World), Lb w → B ≤ w.heap.size → 7 ≤ B → Bu B b l w → StsV w (fun g => g < B) bd p c → l.length + (blkT bd).length ≤ 1000000 →
  Calls Tryd.prog 38 #[.pointer (some ⟨b, 0, none⟩), .slice p bd.len c] w fun e w' => e = .returned (.tuple #[]) ∧ Wro B b (l ++ blkT bd) w w'

/-- What holds at the loop's head. -/
structure Qin (bd : Sts) (g B b : Nat) (l : List UInt8) (w wr : World) (j : Nat) (pre suf : Sts) : Prop where
  wro : Wro B b (l ++ [32, 123, 10] ++ stsT pre) w wr
  eq : bd = pre.app suf
  len : pre.len = j
  lies : StsAt w (fun g => g < B) suf g (8 * j)
  ok : PaOk suf

set_option maxRecDepth 100000 in
set_option maxHeartbeats 3200000 in
theorem pblock_any (bd : Sts) (hok : PaOk bd) : PbOk bd := by
  intro B b l p c w hl hB h7 hbu hv hlen
  have hst := store_cx
  have HL := Lib.hid hl
  have HLEN := Lib.hid hlen
  have hlb : (blkT bd).length = 4 + (stsT bd).length := by simp [blkT]; omega
  rcases hv with ⟨rfl, rfl, rfl⟩ | ⟨g, rfl, hg, h0, h1, h2, hv⟩
  · clear hl
    simp only [Sts.len]
    go_enter Tryd.func38, Tryd.ntmps38
    go_wp2_with fail
    refine (write_list B b l [32, 123, 10] w hbu (by simp; omega) hB).mono ?_
    rintro e w1 ⟨rfl, hw1⟩
    have HW1 := Lib.hid hw1
    clear hw1
    go_wp2
    go_loopw [10] (fun i wr => i = .int .i64 0 ∧ wr = w1) (fun _ _ => 0)
    case atStart => exact ⟨rfl, rfl⟩
    case round =>
      obtain ⟨rfl, rfl⟩ := hrel
      go_wp2_with fail
      refine (write_list B b (l ++ [32, 123, 10]) [125] _ HW1.out.bu (by simp; omega) (HW1.out.size hB)).mono ?_
      rintro e w2 ⟨rfl, hw2⟩
      have HW2 := Lib.hid hw2
      clear hw2
      go_wp2
      go_end0
      exact ⟨rfl, by have := HW1.out.trans HW2.out; simpa [blkT, stsT] using this⟩
  · obtain ⟨n, hn⟩ : ∃ n, bd.len = n := ⟨_, rfl⟩
    rw [hn] at h0 h1 ⊢
    have HN := Lib.hid hn
    have hmx : n ≤ 1000000 := by have := sts_len bd; omega
    have HV := Lib.hid hv
    have HOK := Lib.hid hok
    have HLB := Lib.hid hlb
    clear hl hlen hv hn hok hlb
    go_enter Tryd.func38, Tryd.ntmps38
    go_wp2_with fail
    refine (write_list B b l [32, 123, 10] w hbu (by have := HLEN.out; have := HLB.out; simp; omega) hB).mono ?_
    rintro e w1 ⟨rfl, hw1⟩
    have HQ0 : Hid (Qin bd g B b l w w1 0 .nil bd) := Lib.hid ⟨by simpa [stsT] using hw1, rfl, rfl, by simpa using HV.out, HOK.out⟩
    clear hw1
    go_wp2
    go_loopw [10] (fun i wr => ∃ (j : Nat) (pre suf : Sts), i = .int .i64 (j : Int) ∧ Qin bd g B b l w wr j pre suf) (fun i _ => n - (intOf i).toNat)
    case atStart => exact ⟨0, .nil, bd, rfl, HQ0.out⟩
    case round =>
      obtain ⟨j, pre, suf, rfl, hQ⟩ := hrel
      have HQ := Lib.hid hQ
      have hjn : j + suf.len = n := by rw [← HN.out, hQ.eq, Sts.len_app, hQ.len]
      clear hQ
      cases suf with
      | nil =>
        have hp : bd = pre := by rw [HQ.out.eq, Sts.app_nil]
        have hjn' : j = n := by simpa [Sts.len] using hjn
        subst hjn'
        have HP := Lib.hid hp
        clear hjn hp
        go_wp2_with fail
        refine (write_list B b _ [125] wr HQ.out.wro.bu (by have h1 := HLEN.out; have h2 := HLB.out; rw [HP.out] at h2 h1; simp; omega) (HQ.out.wro.size hB)).mono ?_
        rintro e w2 ⟨rfl, hw2⟩
        have HW2 := Lib.hid hw2
        clear hw2
        go_wp2
        go_end0
        refine ⟨rfl, ?_⟩
        have := HQ.out.wro.trans HW2.out
        rw [← HP.out] at this
        simpa [blkT] using this
      | cons k rg nm ix xs b' es suf =>
        have hlt : j < n := by simp [Sts.len] at hjn; omega
        obtain ⟨⟨px, cx, pb, cb, pe, ce, hc, hx, hb, he⟩, hr⟩ := HQ.out.lies
        have hBr : B ≤ wr.heap.size := HQ.out.wro.size hB
        have hgw : g < wr.heap.size := by omega
        have hS : Same (fun g => g < B) w wr := Same.below HQ.out.wro.bel (fun g h => h)
        obtain ⟨c0, c1, c2, c3, c4, c5, c6, c7⟩ := hc.on hS hg
        have htx : (stsT bd).length = (stsT pre).length + ((stT k rg nm ix xs b' es).length + (stsT suf).length) := by rw [HQ.out.eq, stsT_app, stsT_cons]; simp
        have hS2 : ∀ o, Same (fun g => g < B) w (wr.alloc o) := fun o => Same.below (HQ.out.wro.bel.trans ((below_alloc wr o).mono hBr)) (fun g h => h)
        have hcall := fun (o : Obj) => HQ.out.ok.1 B b (l ++ [32, 123, 10] ++ stsT pre) px cx pb cb pe ce (wr.alloc o) ((HL.out.on HQ.out.wro.bel h7).new (below_alloc _ _)) (by simp; omega) h7 (HQ.out.wro.bu.alloc o)
          (hx.on (hS2 o) (fun g h => h)) (StsV.on (l := b') (hS2 o) (fun g h => h) hb) (StsV.on (l := es) (hS2 o) (fun g h => h) he) (by have h1 := HLEN.out; have h2 := HLB.out; simp only [List.length_append, List.length_cons, List.length_nil]; omega)
        have HC := Lib.hid hcall
        have hmul : 8 * j = j * 8 := by omega
        rw [hmul] at c0 c1 c2 c3 c4 c5 c6 c7
        unfold stv at HC
        generalize (⟨rg.toArray⟩ : ByteArray) = RG at *
        generalize (⟨nm.toArray⟩ : ByteArray) = NM at *
        clear hcall hx hb he hr htx hjn hmul hS hS2
        go_wp2_with fail
        refine (HC.out _).mono ?_
        rintro e w2 ⟨rfl, hw2⟩
        have HW2 := Lib.hid ((HQ.out.wro.below hBr (below_alloc _ _)).trans hw2)
        clear hw2
        go_wp2
        go_roundw
        case rel =>
          have hlies := HQ.out.lies
          refine ⟨j + 1, pre.app (.cons k rg nm ix xs b' es .nil), suf, by go_num, ?_, ?_, ?_, ?_, HQ.out.ok.2⟩
          · have := HW2.out
            rw [stsT_app, stsT_cons]
            simpa [stsT, List.append_assoc] using this
          · rw [HQ.out.eq, Sts.app_assoc]; rfl
          · rw [Sts.len_app, HQ.out.len]; rfl
          · rw [show 8 * (j + 1) = 8 * j + 8 by omega]; exact hlies.2
        case measure => simp [intOf]; omega
end Go.Proofs.YtmomdcnlhljhcaaDoor
