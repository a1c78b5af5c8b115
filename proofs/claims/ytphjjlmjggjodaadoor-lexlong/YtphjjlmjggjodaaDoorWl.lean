/- LexLong: whatever the number, the law answers true. -/
import Derived.Test.YtphjjlmjggjodaaDoorTw
import Derived.Laws.IdiomStrings
set_option linter.unusedSimpArgs false
set_option linter.unusedVariables false
namespace Go.Proofs.YtphjjlmjggjodaaDoor
open Go.RowKit Ieee

theorem by_info : (Tryd.prog.info? 5).map (fun i => (i.zero, i.size, i.bytes)) = some (some (.int .u8 0), 1, 1) := by kernel_rfl
/-- Bytes of a row, the first k of them blanks. -/
structure Bl (w0 w : World) (g N k : Nat) (xs : List Value) : Prop where
  own : w.ownsRow g 5 1 (.slice (some ⟨g, 0, Option.none⟩) N N) N xs
  bl : ∀ i, i < k → xs[i]? = some (.int .u8 32)
  bel : Below w0.heap.size w0 w

set_option maxRecDepth 100000 in
set_option maxHeartbeats 8000000 in
theorem wlong (v : Nat) (hv : v < 256) (w : World) (hb : Lb w) : Calls Tryd.prog 6 #[.int .u8 (v : Int)] w fun e w' => e = .returned (.bool true) ∧ Below w.heap.size w w' := by
  have HB := Lib.hid hb
  have haw := awake w hb
  clear hb
  obtain ⟨i0, hi0, hz0, hz1, hz2⟩ := info_parts by_info
  have HI := Lib.hid hi0
  have HZ0 := Lib.hid hz0
  have HZ1 := Lib.hid hz1
  have HZ2 := Lib.hid hz2
  obtain ⟨r, hr⟩ : ∃ r : Nat, v % 8 = r := ⟨_, rfl⟩
  have hr8 : r < 8 := by omega
  have hri : (v : Int) % 8 = (r : Int) := by omega
  obtain ⟨N, hN⟩ : ∃ N, 16380 + r = N := ⟨_, rfl⟩
  have hNi : (16380 : Int) + (r : Int) = (N : Int) := by omega
  have hN2 : N ≤ 16387 := by omega
  have hN1 : 16380 ≤ N := by omega
  clear hi0 hz0 hz1 hz2 hr hN
  go_enter Tryd.func6, Tryd.ntmps6
  go_wp2_with (go_at_call 9; refine Hid.out ?_)
  refine Lib.hid ?_
  refine haw.mono ?_
  rintro e w1 ⟨rfl, hb1⟩
  have HB1 := Lib.hid hb1
  clear hb1 haw
  go_wp2_with (with_reducible refine wpList_make_full w1 rfl (.tmp 13) (.tmp 13) 34 rfl w1.heap.size 5 i0 (.int .u8 0) 1 Tryd.underlying34 HI.out HZ0.out HZ1.out .i64 .i64 (N : Int) (N : Int) N rfl rfl rfl rfl (by rw [HZ2.out]; omega) (by unfold maxLen; omega) (Nat.le_refl _) ?_)
  intro w2 hown hgr
  have HBL : Hid (Bl w w2 w1.heap.size N 0 (madeCells #[.int .u8 0] N).toList) := Lib.hid ⟨hown, fun i hi => absurd hi (by omega), HB1.out.grown hgr HB1.out.size (fun k hk => by cases hk)⟩
  have HS1 := Lib.hid HB1.out.size
  clear hown hgr
  generalize w1.heap.size = g at *
  go_wp2
  go_loopw [17] (fun i wr => ∃ (k : Nat) (xs : List Value), k ≤ N ∧ i = .int .i64 (k : Int) ∧ Hid (Bl w wr g N k xs)) (fun i _ => N - (intOf i).toNat)
  case atStart => exact ⟨0, _, Nat.zero_le _, rfl, HBL⟩
  case round =>
    obtain ⟨k, xs, hk, rfl, HX⟩ := hrel
    by_cases hlt : k < N
    · obtain ⟨old, hold⟩ : ∃ old, xs[k]? = some old := by
        have hl := HX.out.own.1
        exact ⟨_, List.getElem?_eq_getElem (by omega)⟩
      have hcA := (HX.out.own.cellAt k (by omega)).trans hold
      have hfA := HX.out.own.frozenAt k
      have HN : Hid (Bl w (wr.setCell ⟨g, k, Option.none⟩ (.int .u8 32)) g N (k + 1) (xs.set k (.int .u8 32))) := Lib.hid ⟨(HX.out.own.stored k _).1, by
        intro i hi
        rw [List.getElem?_set]
        have hl := HX.out.own.1
        by_cases e : k = i
        · rw [if_pos e, if_pos (by omega)]
        · rw [if_neg e]
          exact HX.out.bl i (by omega), HX.out.bel.setCell HS1.out _⟩
      have hlt' : (k : Int) < (N : Int) := by omega
      clear hold HX HBL
      go_wp2
      go_roundw
      case rel => exact ⟨k + 1, _, by omega, by go_num, HN⟩
      case measure => simp [intOf]; omega
    · obtain rfl : N = k := by omega
      obtain ⟨S, hS⟩ : ∃ S : ByteArray, S = ⟨(List.replicate N (32 : UInt8)).toArray⟩ := ⟨_, rfl⟩
      have hSs : S.size = N := by rw [hS, size_mk]; simp
      have hSl : S.data.toList = List.replicate N 32 := by rw [hS]
      have hcv := run_convert_bytes_back (P := Tryd.prog) wr 34 9 5 ⟨g, 0, Option.none⟩ N (List.replicate N 32) Tryd.underlying34 Tryd.underlying5 Tryd.underlying9 (by
        intro j hj
        have hj' : j < N := by simpa using hj
        have hadd : (⟨g, 0, Option.none⟩ : Addr).add j = ⟨g, j, Option.none⟩ := by unfold Addr.add; split <;> simp_all
        rw [hadd, HX.out.own.cellAt j (by omega), HX.out.bl j hj']
        simp)
      rw [List.length_replicate, ← hS] at hcv
      have HBW := Lib.hid HX.out.bel
      have HSL := Lib.hid hSl
      by_cases hbig : 16384 < N
      · have hsp := split_big S (by omega)
        have hb' : (16384 : Int) < (N : Int) := by omega
        clear hS hSl HX HBL hSs
        go_wp2_with (go_at_call 10; refine (hsp _).mono ?_; rintro e w' ⟨rfl, rfl⟩)
        go_ret
        exact ⟨rfl, HBW.out⟩
      · have hsp := splitT S (by omega) wr (HB.out.on HBW.out)
        rw [HSL.out, spl_blanks, Nat.zero_add] at hsp
        have hb' : ¬ (16384 : Int) < (N : Int) := by omega
        clear hS hSl HX HBL hSs
        go_wp2_with (go_at_call 10; refine Hid.out ?_)
        refine Lib.hid ?_
        refine hsp.mono ?_
        rintro e w3 ⟨g', cap', rfl, hg', htk', hb3⟩
        have k3 := (htk' 0 _ rfl).2.2.2
        have HB3 := Lib.hid (below_trans HBW.out hb3)
        simp only [Nat.zero_mul, Nat.zero_add] at k3
        have hNN : ((N : Int) == (N : Int)) = true := by simp
        clear hb3 htk' hsp
        go_wp2
        go_ret
        exact ⟨rfl, HB3.out⟩
end Go.Proofs.YtphjjlmjggjodaaDoor
