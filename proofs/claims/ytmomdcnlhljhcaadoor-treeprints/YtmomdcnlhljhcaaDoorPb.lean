/- tree.printBodies, printStmt. -/
import Derived.Test.YtmomdcnlhljhcaaDoorPx
set_option linter.unusedSimpArgs false
set_option linter.unusedVariables false
namespace Go.Proofs.YtmomdcnlhljhcaaDoor
open Go.RowKit Ieee

/-- A statement's box. -/
def sbox (k : Nat) (RG NM : ByteArray) (ix : Bool) (px : Option Addr) (nx cx : Nat) (pb : Option Addr) (nb cb : Nat) (pe : Option Addr) (ne ce : Nat) : Obj :=
  .cells #[.int .i64 (k : Int), .string RG, .string NM, .bool ix, .slice px nx cx, .slice pb nb cb, .slice pe ne ce, .int .i64 0] 87
theorem sbox_cells {w : World} {n k : Nat} {RG NM : ByteArray} {ix : Bool} {px : Option Addr} {nx cx : Nat} {pb : Option Addr} {nb cb : Nat} {pe : Option Addr} {ne ce : Nat} (h : w.heap[n]? = some (sbox k RG NM ix px nx cx pb nb cb pe ne ce)) :
    w.cell? ⟨n, 0, none⟩ = some (.int .i64 (k : Int)) ∧ w.cell? ⟨n, 1, none⟩ = some (.string RG) ∧ w.cell? ⟨n, 2, none⟩ = some (.string NM) ∧ w.cell? ⟨n, 3, none⟩ = some (.bool ix) ∧ w.cell? ⟨n, 4, none⟩ = some (.slice px nx cx) ∧
    w.cell? ⟨n, 5, none⟩ = some (.slice pb nb cb) ∧ w.cell? ⟨n, 6, none⟩ = some (.slice pe ne ce) ∧ w.cell? ⟨n, 7, none⟩ = some (.int .i64 0) := by
  refine ⟨?_, ?_, ?_, ?_, ?_, ?_, ?_, ?_⟩ <;> rw [cell_of_row w n _ _ 87 (0, 0) h] <;> rfl
theorem sbox_on {B b : Nat} {l : List UInt8} {w w1 : World} {n k : Nat} {RG NM : ByteArray} {ix : Bool} {px : Option Addr} {nx cx : Nat} {pb : Option Addr} {nb cb : Nat} {pe : Option Addr} {ne ce : Nat} (h : w.heap[n]? = some (sbox k RG NM ix px nx cx pb nb cb pe ne ce)) (hw : Wro B b l w w1) (hn : n ≠ b) :
    w1.heap[n]? = some (sbox k RG NM ix px nx cx pb nb cb pe ne ce) := hw.block h hn (by decide)

set_option maxRecDepth 100000 in
set_option maxHeartbeats 3200000 in
theorem pbodies_any (k : Nat) (rg nm : List UInt8) (ix : Bool) (xs : List Ex) (bd es : Sts) (hpb : PbOk bd) (hpe : PbOk es) (B b : Nat) (l : List UInt8) (px : Option Addr) (cx : Nat) (pb : Option Addr) (cb : Nat) (pe : Option Addr) (ce : Nat) (w : World) (hl : Lb w) (hB : B ≤ w.heap.size) (h7 : 7 ≤ B) (hbu : Bu B b l w)
    (hb : StsV w (fun g => g < B) bd pb cb) (he : StsV w (fun g => g < B) es pe ce) (hlen : l.length + (blkT bd ++ elseT (blkT es) es.len ++ [10]).length ≤ 1000000) :
    Calls Tryd.prog 59 #[.pointer (some ⟨b, 0, none⟩), stv k rg nm ix px xs.length cx pb bd.len cb pe es.len ce] w fun e w' => e = .returned (.tuple #[]) ∧ Wro B b (l ++ (blkT bd ++ elseT (blkT es) es.len ++ [10])) w w' := by
  have hst := store_cx
  have HL := Lib.hid hl
  have HBV := Lib.hid hb
  have HEV := Lib.hid he
  have HPB := Lib.hid hpb
  have HPE := Lib.hid hpe
  have HLEN := Lib.hid hlen
  have hblt : b < w.heap.size := hbu.lt
  unfold stv
  obtain ⟨n, hn⟩ : ∃ n, w.heap.size = n := ⟨_, rfl⟩
  generalize (⟨rg.toArray⟩ : ByteArray) = RG
  generalize (⟨nm.toArray⟩ : ByteArray) = NM
  obtain ⟨W, hW⟩ : ∃ W, w.alloc (sbox k RG NM ix px xs.length cx pb bd.len cb pe es.len ce) = W := ⟨_, rfl⟩
  have hblk : W.heap[n]? = some (sbox k RG NM ix px xs.length cx pb bd.len cb pe es.len ce) := by rw [← hW, ← hn]; exact heap_alloc_new _ _
  obtain ⟨b0, b1, b2, b3, b4, b5, b6, b7⟩ := sbox_cells hblk
  have HBLK := Lib.hid hblk
  have HW0 : Hid (Wro B b l w W) := Lib.hid (by rw [← hW]; exact (Wro.refl hbu).below hB (below_alloc _ _))
  have hnb : n ≠ b := by omega
  have hlens : l.length + ((blkT bd).length + (elseT (blkT es) es.len).length + 1) ≤ 1000000 := by simp at hlen; omega
  have HLS := Lib.hid hlens
  clear hl hb he hpb hpe hlen hbu hlens hblk
  unfold sbox at hW
  go_enter Tryd.func59, Tryd.ntmps59
  go_wp2_with fail
  have HWW := Lib.hid hW
  clear hW
  have hS0 : Same (fun g => g < B) w W := Same.below HW0.out.bel (fun g h => h)
  refine (HPB.out B b l pb cb W (HL.out.on HW0.out.bel h7) (HW0.out.size hB) h7 HW0.out.bu (HBV.out.on hS0 (fun g h => h)) (by have := HLS.out; omega)).mono ?_
  rintro e w1 ⟨rfl, hw1⟩
  have hblk1 := sbox_on HBLK.out hw1 hnb
  obtain ⟨c0, c1, c2, c3, c4, c5, c6, c7⟩ := sbox_cells hblk1
  have HBLK1 := Lib.hid hblk1
  have HW1 := Lib.hid (HW0.out.trans hw1)
  clear hS0 hblk1 hw1 b0 b1 b2 b3 b4 b5 b6 b7 c0 c1 c2 c3 c4 c5 c7
  rcases HEV.out with ⟨rfl, rfl, rfl⟩ | ⟨ge, rfl, hge, hel, _, _, _⟩
  · simp only [Sts.len] at c6
    go_wp2_with fail
    refine (write_list B b (l ++ blkT bd) [10] w1 HW1.out.bu (by have := HLS.out; simp; omega) (HW1.out.size hB)).mono ?_
    rintro e w2 ⟨rfl, hw2⟩
    have HW2 := Lib.hid (HW1.out.trans hw2)
    clear hw2
    go_wp2
    go_end0
    exact ⟨rfl, by simpa [elseT, Sts.len] using HW2.out⟩
  · have hel' : ((es.len : Nat) : Int) > 0 := by omega
    have hels : elseT (blkT es) es.len = [32, 101, 108, 115, 101] ++ blkT es := by unfold elseT; rw [if_neg (by omega)]
    have HELS := Lib.hid hels
    have hln2 : l.length + ((blkT bd).length + (5 + (blkT es).length) + 1) ≤ 1000000 := by have := HLS.out; rw [hels] at this; simp at this; omega
    have HLN2 := Lib.hid hln2
    have HPE2 := Lib.hid (fun w' l' (h1 : Lb w') (h2 : B ≤ w'.heap.size) (h3 : Bu B b l' w') h4 h5 => HPE.out B b l' (some ⟨ge, 0, none⟩) ce w' h1 h2 h7 h3 h4 h5)
    have HEV2 := HEV
    clear hels hln2
    obtain ⟨el, hell⟩ : ∃ el, es.len = el := ⟨_, rfl⟩
    rw [hell] at c6 hel hel' HBLK1
    rw [hell] at HPE2
    have HELL := Lib.hid hell
    clear hell
    go_wp2_with fail
    refine (write_list B b (l ++ blkT bd) [32, 101, 108, 115, 101] w1 HW1.out.bu (by have := HLN2.out; simp; omega) (HW1.out.size hB)).mono ?_
    rintro e w2 ⟨rfl, hw2⟩
    have hblk2 := sbox_on HBLK1.out hw2 hnb
    obtain ⟨d0, d1, d2, d3, d4, d5, d6, d7⟩ := sbox_cells hblk2
    have HW2 := Lib.hid (HW1.out.trans hw2)
    clear hw2 hblk2 c6 d0 d1 d2 d3 d4 d5 d7
    go_wp2_with fail
    have hS2 : Same (fun g => g < B) w w2 := Same.below HW2.out.bel (fun g h => h)
    refine (HPE2.out w2 _ (HL.out.on HW2.out.bel h7) (HW2.out.size hB) HW2.out.bu (HEV2.out.on hS2 (fun g h => h)) (by have := HLN2.out; simp; omega)).mono ?_
    rintro e w3 ⟨rfl, hw3⟩
    have HW3 := Lib.hid (HW2.out.trans hw3)
    clear hw3 hS2
    go_wp2_with fail
    refine (write_list B b _ [10] w3 HW3.out.bu (by have := HLN2.out; simp; omega) (HW3.out.size hB)).mono ?_
    rintro e w4 ⟨rfl, hw4⟩
    have HW4 := Lib.hid (HW3.out.trans hw4)
    clear hw4
    go_wp2
    go_end0
    refine ⟨rfl, ?_⟩
    rw [HELL.out.symm] at *
    rw [HELS.out]
    simpa [List.append_assoc] using HW4.out
end Go.Proofs.YtmomdcnlhljhcaaDoor
