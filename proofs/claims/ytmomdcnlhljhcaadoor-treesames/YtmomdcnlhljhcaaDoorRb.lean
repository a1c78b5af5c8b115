/- The law's own text of a block, once its statements' texts are told. -/
import Derived.Test.YtmomdcnlhljhcaaDoorRx
import Derived.Test.YtmomdcnlhljhcaaDoorWf
import Derived.Test.YtmomdcnlhljhcaaDoorSb
set_option linter.unusedSimpArgs false
set_option linter.unusedVariables false
namespace Go.Proofs.YtmomdcnlhljhcaaDoor
open Go.RowKit Ieee

/-- The law's stmt tells the statement's text. -/
def StOk (k : Nat) (rg nm : List UInt8) (ix : Bool) (xs : List Ex) (b e : Sts) : Prop := ∀ (px : Option Addr) (cx : Nat) (pb : Option Addr) (cb : Nat) (pe : Option Addr) (ce : Nat) (w : World), Lb w →
  XsV w (fun g => g < w.heap.size) xs px cx → StsV w (fun g => g < w.heap.size) b pb cb → StsV w (fun g => g < w.heap.size) e pe ce → (stT k rg nm ix xs b e).length ≤ 1000000 →
  Calls Tryd.prog 42 #[stv k rg nm ix px xs.length cx pb b.len cb pe e.len ce] w fun en w' => en = .returned (.string ⟨(stT k rg nm ix xs b e).toArray⟩) ∧ Below w.heap.size w w'
def RsOk : Sts → Prop
  | .nil => True
  | .cons k rg nm ix xs b e r => StOk k rg nm ix xs b e ∧ RsOk r
def RbOk (b : Sts) : Prop := ∀ (p : Option Addr) (c : Nat) (w : World), Lb w → StsV w (fun g => g < w.heap.size) b p c → (blkT b).length ≤ 1000000 →
  Calls Tryd.prog 29 #[.slice p b.len c] w fun en w' => en = .returned (.string ⟨(blkT b).toArray⟩) ∧ Below w.heap.size w w'

theorem stT_pos (k : Nat) (rg nm : List UInt8) (ix : Bool) (xs : List Ex) (b e : Sts) : 1 ≤ (stT k rg nm ix xs b e).length := by unfold stT; split <;> simp <;> omega
theorem sts_len (b : Sts) : b.len ≤ (stsT b).length := by
  induction b with
  | nil => exact Nat.le_refl _
  | cons k rg nm ix xs b e r _ _ ih => rw [stsT_cons, List.length_append]; have := stT_pos k rg nm ix xs b e; simp only [Sts.len]; omega
/-- What holds at the loop's head: some statements are told, the others lie there. -/
structure Bin (b : Sts) (g : Nat) (w wr : World) (j : Nat) (TP : List UInt8) (pre suf : Sts) : Prop where
  tp : TP = [32, 123, 10] ++ stsT pre
  bel : Below w.heap.size w wr
  eq : b = pre.app suf
  len : pre.len = j
  lies : StsAt w (fun g => g < w.heap.size) suf g (8 * j)
  ok : RsOk suf

set_option maxRecDepth 100000 in
set_option maxHeartbeats 3200000 in
theorem block_any (b : Sts) (hok : RsOk b) : RbOk b := by
  intro p c w hl hv hlen
  have HL := Lib.hid hl
  have hst := store_cx
  have hl1 := cat_big ([32, 123, 10] ++ stsT b) [125] (by simp [blkT] at hlen; simp; omega) (by simp)
  have HLEN := Lib.hid hlen
  rcases hv with ⟨rfl, rfl, rfl⟩ | ⟨g, rfl, hg, h0, h1, h2, hv⟩
  · unfold blkT
    simp only [stsT, List.append_nil, Sts.len] at hl1 ⊢
    clear hl HLEN hlen
    go_enter Tryd.func29, Tryd.ntmps29
    go_wp2
    go_loopw [3, 8] (fun s i wr => s = .string ⟨#[32, 123, 10]⟩ ∧ i = .int .i64 0 ∧ wr = w) (fun _ _ _ => 0)
    case atStart => exact ⟨rfl, rfl, rfl⟩
    case round =>
      obtain ⟨rfl, rfl, rfl⟩ := hrel
      go_wp2
      go_ret
      exact ⟨rfl, Below.refl _ _⟩
  · have HB0 : Hid (Bin b g w w 0 [32, 123, 10] .nil b) := Lib.hid ⟨rfl, Below.refl _ _, rfl, rfl, by simpa using hv, hok⟩
    obtain ⟨n, hn⟩ : ∃ n, b.len = n := ⟨_, rfl⟩
    rw [hn] at h0 h1 ⊢
    have HN := Lib.hid hn
    unfold blkT
    obtain ⟨TB, hTB⟩ : ∃ TB, [32, 123, 10] ++ stsT b ++ [125] = TB := ⟨_, rfl⟩
    have hmx : n ≤ 1000000 := by have := sts_len b; simp [blkT] at hlen; omega
    rw [hTB] at hl1 ⊢
    obtain ⟨TA, hTA⟩ : ∃ TA, [32, 123, 10] ++ stsT b = TA := ⟨_, rfl⟩
    rw [hTA] at hl1
    have HTA := Lib.hid hTA
    clear hl hlen hTB hTA hv hn hok
    go_enter Tryd.func29, Tryd.ntmps29
    go_wp2
    go_loopw [3, 8] (fun s i wr => ∃ (j : Nat) (TP : List UInt8) (pre suf : Sts), i = .int .i64 (j : Int) ∧ s = .string ⟨TP.toArray⟩ ∧ Bin b g w wr j TP pre suf) (fun _ i _ => n - (intOf i).toNat)
    case atStart => exact ⟨0, [32, 123, 10], .nil, b, rfl, rfl, HB0.out⟩
    case round =>
      obtain ⟨j, TP, pre, suf, rfl, rfl, hB⟩ := hrel
      have HB := Lib.hid hB
      have hjn : j + suf.len = n := by rw [← HN.out, hB.eq, Sts.len_app, hB.len]
      clear hB
      cases suf with
      | nil =>
        have hp : b = pre := by rw [HB.out.eq, Sts.app_nil]
        have hjn' : j = n := by simpa [Sts.len] using hjn
        subst hjn'
        have htp : TP = TA := by rw [HB.out.tp, ← hp, HTA.out]
        subst htp
        clear hjn hp
        go_wp2
        go_ret
        exact ⟨rfl, HB.out.bel⟩
      | cons k rg nm ix xs bd es suf =>
        have hlt : j < n := by simp [Sts.len] at hjn; omega
        obtain ⟨⟨px, cx, pb, cb, pe, ce, hc, hx, hb, he⟩, hr⟩ := HB.out.lies
        have hS : Same (fun g => g < w.heap.size) w wr := Same.below HB.out.bel (fun g h => h)
        have hmono : ∀ g, g < w.heap.size → g < wr.heap.size := fun g h => Nat.lt_of_lt_of_le h HB.out.bel.size
        obtain ⟨c0, c1, c2, c3, c4, c5, c6, c7⟩ := hc.on hS hg
        have htx : (stsT b).length = (stsT pre).length + ((stT k rg nm ix xs bd es).length + (stsT suf).length) := by rw [HB.out.eq, stsT_app, stsT_cons]; simp
        have hlb := HLEN.out
        simp only [blkT, List.length_append, List.length_cons, List.length_nil] at hlb
        have hcall := fun (o : Obj) => HB.out.ok.1 px cx pb cb pe ce (wr.alloc o) ((HL.out.new HB.out.bel).new (below_alloc _ _))
          (hx.on (Same.below (HB.out.bel.trans ((below_alloc wr o).mono HB.out.bel.size)) (fun g h => h)) (fun g h => by have := hmono g h; simp; omega))
          (StsV.on (l := bd) (Same.below (HB.out.bel.trans ((below_alloc wr o).mono HB.out.bel.size)) (fun g h => h)) (fun g h => by have := hmono g h; simp; omega) hb)
          (StsV.on (l := es) (Same.below (HB.out.bel.trans ((below_alloc wr o).mono HB.out.bel.size)) (fun g h => h)) (fun g h => by have := hmono g h; simp; omega) he) (by omega)
        have HC := Lib.hid hcall
        have hcat := cat_big TP (stT k rg nm ix xs bd es) (by rw [HB.out.tp]; simp; omega) (by omega)
        have hmul : 8 * j = j * 8 := by omega
        rw [hmul] at c0 c1 c2 c3 c4 c5 c6 c7
        unfold stv at HC
        generalize (⟨rg.toArray⟩ : ByteArray) = RG at *
        generalize (⟨nm.toArray⟩ : ByteArray) = NM at *
        generalize hST : stT k rg nm ix xs bd es = ST at *
        have HST := Lib.hid hST
        clear hcall hx hb he hr hST htx hlb hjn hmul
        go_wp2_with fail
        refine (HC.out _).mono ?_
        rintro en w2 ⟨rfl, hb2⟩
        have HB2 := Lib.hid hb2
        clear hb2
        go_wp2
        go_roundw
        case rel =>
          have hlies := HB.out.lies
          refine ⟨j + 1, _, pre.app (.cons k rg nm ix xs bd es .nil), suf, by go_num, rfl, ?_⟩
          · refine ⟨by rw [stsT_app, stsT_cons, HST.out, HB.out.tp]; simp [stsT], HB.out.bel.trans ((below_new HB2.out).mono HB.out.bel.size), ?_, ?_, ?_, HB.out.ok.2⟩
            · rw [HB.out.eq, Sts.app_assoc]; rfl
            · rw [Sts.len_app, HB.out.len]; rfl
            · rw [show 8 * (j + 1) = 8 * j + 8 by omega]; exact hlies.2
        case measure => simp [intOf]; omega
end Go.Proofs.YtmomdcnlhljhcaaDoor
