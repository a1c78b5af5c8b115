/- race.Turned: what is left when the second one comes ahead of the first one. -/
import Derived.Test.YtcbpkagegdfidaaWg
import Derived.Test.YtcbpkagegdfidaaGf
import Derived.Test.YtcbpkagegdfidaaCp
import Derived.Test.YtcbpkagegdfidaaZv
import Derived.Test.YtcbpkagegdfidaaZj
set_option linter.unusedSimpArgs false
set_option linter.unusedVariables false
namespace Go.Proofs.Ytcbpkagegdfidaa
open Go.RowKit

theorem trk_zero (x : Evl) (i : Nat) : trk x i 0 = [] := rfl
theorem trk_take (x : Evl) (i : Nat) : ∀ n, n ≤ i → n ≤ x.length → trk x i n = x.take n
  | 0, _, _ => by rw [trk_zero, List.take_zero]
  | n + 1, h, h2 => by
    rw [trk_step, trk_take x i n (by omega) (by omega), if_pos (by simp; omega), List.take_add_one, List.getElem?_eq_getElem (by omega), getElem!_pos x n (by omega)]
    rfl
theorem trk_at (x : Evl) (i : Nat) : trk x i (i + 1) = trk x i i := by
  rw [trk_step, if_neg (by simp), List.append_nil]
theorem trk_over {x : Evl} {i k : Nat} (h : i < k) {e : Int × List (Int × Bool)} (he : x[k]? = some e) : trk x i (k + 1) = if hbd edep x i k then trk x i k else trk x i k ++ [e] := by
  obtain ⟨h1, h2⟩ := List.getElem?_eq_some_iff.1 he
  rw [trk_step, getElem!_pos x k h1, h2]
  cases hbd edep x i k with
  | true => simp; omega
  | false => rw [if_pos (by simp; omega)]; rfl
theorem hbI_take (x : Evl) {i k j : Nat} (h : k < j) : hbI (x.take j) (i : Int) (k : Int) = hbd edep x i k := by
  rw [hbI_nat, Bool.eq_iff_iff, hbd_iff, hbd_iff]
  exact ⟨Hb.of_take, fun g => g.take h⟩
theorem clone_ms (l : List (Int × Bool)) (v : Value) (w : World) (hs : MkS w v l) (hl : l.length ≤ 1000) : Calls Try.prog 28 #[v] w fun e w' => ∃ q c, e = .returned (.slice q l.length c) ∧ MkS w' (.slice q l.length c) l ∧ (∀ r, (Value.slice q l.length c).ownBlock = some r → w.heap.size ≤ r) ∧ Below w.heap.size w w' := by
  refine (clone_mk l v w hs hl).mono ?_
  rintro e w1 ⟨v1, rfl, hb1, hv1⟩
  rcases hv1 with ⟨rfl, rfl⟩ | ⟨g, cap, rfl, hg, hg1, hc, hcm, hr, hf⟩
  · exact ⟨_, _, rfl, MkS.nil _, (fun r hr => by cases hr), hb1⟩
  · exact ⟨_, _, rfl, ⟨_, cap, rfl, hc, hcm, .inr ⟨g, 0, rfl, hg1, hr⟩⟩, (fun r hr => by cases hr; exact hg), hb1⟩

set_option maxRecDepth 100000 in
set_option maxHeartbeats 16000000 in
theorem turned_o : TurnC := by
  intro x a b v w hs hk
  have HS := Lib.hid hs
  have HK := Lib.hid hk
  obtain ⟨p, cap, rfl, hcap, hcm, h4⟩ := hs
  have hA60 : x.length ≤ 60 := hk.1
  obtain ⟨A, hA⟩ : ∃ A, x.length = A := ⟨_, rfl⟩
  rw [hA] at HS hcap hA60 ⊢
  have HA := Lib.hid hA
  have H4 := Lib.hid h4
  have hW0 := below_alloc w (Obj.cells #[Value.int .i64 a, .int .i64 b] 30)
  have hg0 := heap_alloc_new w (Obj.cells #[Value.int .i64 a, .int .i64 b] 30)
  obtain ⟨X, hX⟩ : ∃ X, w.heap.size = X := ⟨_, rfl⟩
  obtain ⟨W0, hw0⟩ : ∃ W0, w.alloc (Obj.cells #[Value.int .i64 a, .int .i64 b] 30) = W0 := ⟨_, rfl⟩
  have hs0 : W0.heap.size = X + 1 := by rw [← hw0, ← hX]; simp
  rw [hw0] at hW0 hg0
  rw [hX] at hg0
  have hc0 : ∀ W, Below W0.heap.size W0 W → W.cell? ⟨X, 0, Option.none⟩ = some (.int .i64 a) ∧ W.cell? ⟨X, 1, Option.none⟩ = some (.int .i64 b) := fun W k => by
    have g1 := (k.block X (by omega)).trans hg0
    exact ⟨by rw [cell_of_row _ _ _ _ _ _ g1]; rfl, by rw [cell_of_row _ _ _ _ _ _ g1]; rfl⟩
  obtain ⟨c0, c1⟩ := hc0 W0 (Below.refl _ _)
  have HC0 := Lib.hid hc0
  have HW0 : Hid (Below X w W0) := Lib.hid (by rw [← hX]; exact hW0)
  have HS0 := Lib.hid hs0
  have HX := Lib.hid hX
  clear h4 hk hA hW0 hg0 hs0 hc0
  have HBAD : Hid ((a < 0 ∨ b ≤ a ∨ (A : Int) ≤ b) → EvS W0 (.slice Option.none 0 0) (trI x a b)) := Lib.hid fun h => by
    have ht : trI x a b = [] := by unfold trI; rw [HA.out, if_pos h]
    rw [ht]
    exact (EvI.nil W0 0).evs
  by_cases h1 : a < 0
  · have HE := Lib.hid (HBAD.out (.inl h1))
    clear HBAD
    go_enter Try.func13, Try.ntmps13
    go_wp2
    go_ret
    exact ⟨_, rfl, HE.out, by first | exact HW0.out | (rw [HX.out]; exact HW0.out)⟩
  by_cases h2 : b ≤ a
  · have HE := Lib.hid (HBAD.out (.inr (.inl h2)))
    clear HBAD
    go_enter Try.func13, Try.ntmps13
    go_wp2
    go_ret
    exact ⟨_, rfl, HE.out, by first | exact HW0.out | (rw [HX.out]; exact HW0.out)⟩
  by_cases h3 : (A : Int) ≤ b
  · have HE := Lib.hid (HBAD.out (.inr (.inr h3)))
    clear HBAD
    go_enter Try.func13, Try.ntmps13
    go_wp2
    go_ret
    exact ⟨_, rfl, HE.out, by first | exact HW0.out | (rw [HX.out]; exact HW0.out)⟩
  obtain ⟨i, rfl⟩ : ∃ n : Nat, a = (n : Int) := ⟨a.toNat, by omega⟩
  obtain ⟨j, rfl⟩ : ∃ n : Nat, b = (n : Int) := ⟨b.toNat, by omega⟩
  clear HBAD
  have hij : i < j := by omega
  have hjA : j < A := by omega
  obtain ⟨p0, o0, rfl, hbb, hr⟩ : ∃ b o, p = some ⟨b, o, Option.none⟩ ∧ b < w.heap.size ∧ EvR w b o x := by
    rcases H4.out with ⟨_, h⟩ | h
    · have := HA.out; rw [h] at this; simp at this; omega
    · exact h
  have HR := Lib.hid hr
  have HHBB := Lib.hid hbb
  have hbw : p0 < W0.heap.size := by rw [HS0.out, ← HX.out]; omega
  have hW0' : Below w.heap.size w W0 := by rw [HX.out]; exact HW0.out
  have hr0 : EvR W0 p0 o0 x := fun k e he => by
    obtain ⟨h4, u, h5, h6⟩ := hr k e he
    exact ⟨(hW0'.cell (p := ⟨p0, _, Option.none⟩) hbb).trans h4, u, (hW0'.cell (p := ⟨p0, _, Option.none⟩) hbb).trans h5, h6.kept hW0'⟩
  obtain ⟨w2, hrunC, hev2, hb2⟩ := copy_ev x p0 o0 i j A cap W0 hbw hr0 HA.out (by omega) (by omega) (by omega)
  obtain ⟨i0, hi, hz, hsz, hby⟩ := ev_info
  obtain ⟨w1, hw1⟩ : ∃ w1, W0.alloc (.cells (madeCells (Value.agg #[.int .i64 0, .slice Option.none 0 0]).cells (j * 2)) 38) = w1 := ⟨_, rfl⟩
  rw [hw1] at hrunC
  have HEV2 := Lib.hid hev2
  have HB2 := Lib.hid hb2
  have HS2 : Hid (EvS w2 (.slice (some ⟨p0, o0, Option.none⟩) A cap) x) := Lib.hid (HS.out.kept (hW0'.trans (hb2.mono hW0'.size)))
  have hlj : (x.take j).length = j := by rw [List.length_take, HA.out]; omega
  have HKJ : Hid (Evk (x.take j)) := Lib.hid (HK.out.sub (by rw [hlj]; omega) fun e he => List.mem_of_mem_take he)
  have HLJ := Lib.hid hlj
  have HNEW := Lib.hid (newG (x.take j) _ w2 (HS2.out.pre (J := j) (by rw [HA.out]; exact hjA)) HKJ.out)
  obtain ⟨B, hB⟩ : ∃ B, W0.heap.size = B := ⟨_, rfl⟩
  rw [hB] at hrunC HEV2 HB2 hbw
  have d0 := HC0.out w1 (by rw [← hw1]; exact below_alloc _ _)
  obtain ⟨d0, d1⟩ := d0
  obtain ⟨e0, e1⟩ := HC0.out w2 hb2
  have hn1 : ¬ ((i : Int) < 0) := by omega
  have hn2 : ¬ ((j : Int) ≤ (i : Int)) := by omega
  have hn3 : ¬ ((A : Int) ≤ (j : Int)) := by omega
  clear hev2 hb2 hlj hr hr0 hW0' h1 h2 h3
  go_enter Try.func13, Try.ntmps13
  go_wp2_with (first | (at_make; refine wpList_make_part W0 rfl (.tmp 27) (.tmp 29) 25 rfl 38 i0 _ 2 32 Try.underlying25 hi hz hsz hby .i64 .i64 i j rfl rfl (by omega) (by omega) (by omega) ?_; rw [hw1]) | (at_builtin; refine wpList_copy_two rfl (.tmp 31) (.tmp 32) 25 25 rfl w2 i _ _ rfl rfl hrunC ?_) | (go_at_call 25; refine Hid.out ?_))
  refine Lib.hid ?_
  refine HNEW.out.mono ?_
  rintro e w3 ⟨v3, rfl, ⟨pO, mO, cO, rfl, hob⟩, hb3⟩
  have HOB := Lib.hid hob
  have HB3 : Hid (Below B W0 w3) := Lib.hid (HB2.out.trans (hb3.mono (by rw [← hB]; exact HB2.out.size)))
  clear c0 c1 d0 d1 e0 e1
  have hwi : IntKind.i64.wrap ((i : Int) + 1) = ((i + 1 : Nat) : Int) := by rw [IntKind.wrap_i64]; omega
  have hBlt : B < w2.heap.size := by
    obtain ⟨cs, hown, _⟩ := HEV2.out
    exact (hown.lt B rfl).2
  have hgB := heap_alloc_new w3 (Obj.cells #[Value.slice pO mO cO] 58)
  have hbB := below_alloc w3 (Obj.cells #[Value.slice pO mO cO] 58)
  obtain ⟨w4, hw4⟩ : ∃ w4, w3.alloc (Obj.cells #[Value.slice pO mO cO] 58) = w4 := ⟨_, rfl⟩
  have hs4 : w4.heap.size = w3.heap.size + 1 := by rw [← hw4]; simp
  rw [hw4] at hgB hbB
  have HEV4 : Hid (EvI w4 B (.slice (some ⟨B, 0, Option.none⟩) i j) (trk x i (i + 1))) := Lib.hid (by
    rw [trk_at, trk_take x i i (Nat.le_refl _) (by rw [HA.out]; omega)]
    exact (HEV2.out.kept hb3).kept hbB)
  have HOB4 : Hid (ObG w2.heap.size w4 (.slice pO mO cO) (x.take j) (x.take j).length) := Lib.hid (hob.kept ((Exo.refl B w3).below hbB) hBlt)
  have HB4 : Hid (Below B W0 w4) := Lib.hid (HB3.out.trans (hbB.mono (by have := HB3.out.size; rw [← hB]; exact this)))
  have HBLT : Hid (B < w2.heap.size) := Lib.hid hBlt
  have hS3 : B < w3.heap.size := Nat.lt_of_lt_of_le hBlt hb3.size
  obtain ⟨Y, hY⟩ : ∃ Y, w3.heap.size = Y := ⟨_, rfl⟩
  rw [hY] at hgB hs4 hS3
  have HGB := Lib.hid hgB
  have HS4 := Lib.hid hs4
  have HS3 := Lib.hid hS3
  have HBE := Lib.hid hB
  obtain ⟨f0, f1⟩ := HC0.out w4 (by rw [hB]; exact HB4.out)
  clear hob hb3 hw0 hw1 hX HNEW hrunC hgB hbB hBlt hs4 hS3 HEV2 HOB HB3 HB2 hB
  go_wp2_with fail
  go_loopw [5, 7] (fun s5 s7 wr => ∃ (k : Nat), s7 = .int .i64 (k : Int) ∧ i + 1 ≤ k ∧ k ≤ j ∧ EvI wr B s5 (trk x i k) ∧ (∀ q, s5.ownBlock = some q → q = B ∨ w4.heap.size ≤ q) ∧ Below B W0 wr ∧ Exo B w4 wr) (fun _ s _ => j - (intOf s).toNat)
  case atStart => exact ⟨i + 1, rfl, Nat.le_refl _, by omega, HEV4.out, fun q hq => .inl (Option.some.inj hq).symm, HB4.out, Exo.refl _ _⟩
  case round =>
    obtain ⟨k, rfl, hik, hkj, hev, hq5, hb, hx⟩ := hrel
    have HEV := Lib.hid hev
    have HQ5 := Lib.hid hq5
    have HB := Lib.hid hb
    have HXO := Lib.hid hx
    obtain ⟨g0, g1⟩ := HC0.out wr (by rw [HBE.out]; exact hb)
    have hwr : Below w.heap.size w wr := by
      rw [HX.out]
      exact HW0.out.trans (hb.mono (by have := HS0.out; have := HBE.out; omega))
    have HWR := Lib.hid hwr
    have hkA : k < A := by omega
    obtain ⟨f, hf⟩ : ∃ f, x[k]? = some f := ⟨_, List.getElem?_eq_getElem (by rw [HA.out]; exact hkA)⟩
    obtain ⟨qf, mf, cf, hfc⟩ := HR.out.at HHBB.out hf
    have hub : ∀ q, (Value.slice qf mf cf).ownBlock = some q → u5.ownBlock ≠ some q := fun q hq e => by
      have h1 := (hfc w (Below.refl _ _)).2.2.blk hq
      have h2 := hq5 q e
      have h3 := HX.out
      have h4 := HS0.out
      have h5 := HBE.out
      have h6 := HS4.out
      have h7 := HS3.out
      omega
    have HUB := Lib.hid hub
    have HFC := Lib.hid hfc
    have HF := Lib.hid hf
    have c6 : wr.cell? ⟨Y, 0, Option.none⟩ = some (.slice pO mO cO) := by
      have h := (hx.2 Y (by rw [HS4.out]; omega) (by have := HS3.out; omega)).trans HGB.out
      rw [cell_of_row _ _ _ _ _ _ h]; rfl
    clear hev hq5 hb hx hwr hf hfc hub
    by_cases hlt : k < j
    · have hkj' : (k : Int) < (j : Int) := by omega
      have hkA' : (k : Int) < (A : Int) := by omega
      have hk0 : (0 : Int) ≤ (k : Int) := by omega
      have hwk : IntKind.i64.wrap ((k : Int) + 1) = ((k + 1 : Nat) : Int) := by rw [IntKind.wrap_i64]; omega
      have hobr : ObS wr (.slice pO mO cO) (x.take j) := (HOB4.out.kept HXO.out HBLT.out).obp
      have hbef := befO (x.take j) pO mO cO i k wr hobr HKJ.out
      rw [hbI_take x hlt] at hbef
      have HBEF := Lib.hid hbef
      have HST := Lib.hid (trk_over (x := x) (i := i) (k := k) (by omega) HF.out)
      clear hobr hbef
      generalize hbd edep x i k = hd at HBEF HST
      go_wp2_with (go_at_call 27; refine Hid.out ?_)
      refine Lib.hid ?_
      refine HBEF.out.mono ?_
      rintro e w5 ⟨rfl, hb5⟩
      have HEV5 := Lib.hid (HEV.out.kept hb5)
      have HB5 : Hid (Below B W0 w5) := Lib.hid (HB.out.trans (hb5.mono (by have := HB.out.size; rw [HBE.out] at this; exact this)))
      have HX5 := Lib.hid (HXO.out.below hb5)
      have HWR5 := Lib.hid (HWR.out.trans (hb5.mono HWR.out.size))
      clear g0 g1 c6 hb5 HBEF
      cases hd with
      | true =>
        have HSAME : Hid (trk x i (k + 1) = trk x i k) := Lib.hid (by rw [HST.out, if_pos rfl])
        go_wp2_with fail
        go_roundw
        case rel => exact ⟨k + 1, by go_num, by omega, by omega, by rw [HSAME.out]; exact HEV5.out, HQ5.out, HB5.out, HX5.out⟩
        case measure => simp [intOf]; omega
      | false =>
        have HAPP : Hid (trk x i (k + 1) = trk x i k ++ [(f.1, f.2)]) := Lib.hid (by rw [HST.out]; rfl)
        obtain ⟨c1, c2, hmk⟩ := HFC.out w5 HWR5.out
        have hg6 := heap_alloc_new w5 (Obj.cells #[Value.int .i64 f.1, .slice qf mf cf] 38)
        have hb6 := below_alloc w5 (Obj.cells #[Value.int .i64 f.1, .slice qf mf cf] 38)
        obtain ⟨v', w'', hrun, ho', hgr, hat⟩ := app_ev2 (w5.alloc (Obj.cells #[Value.int .i64 f.1, .slice qf mf cf] 38)) B u5 (.slice qf mf cf) (trk x i k) f.1 f.2 (HEV5.out.kept hb6) (by have := trk_len x i k; omega) (by have := HB5.out.size; have := HBE.out; simp; omega) ⟨w5.heap.size, 0, Option.none⟩ (by rw [add_lit, cell_of_row _ _ _ _ _ _ hg6]; rfl) (by rw [add_lit, cell_of_row _ _ _ _ _ _ hg6]; rfl) (hmk.kept hb6) HUB.out
        rw [← HAPP.out] at ho'
        have HEV6 := Lib.hid ho'
        have hvo : ∀ q, u5.ownBlock = some q → B ≤ q := fun q hq => by
          rcases HQ5.out q hq with h | h
          · omega
          · have := HS4.out; have := HS3.out; omega
        have HB6 : Hid (Below B W0 w'') := Lib.hid ((HB5.out.trans (hb6.mono (by have := HB5.out.size; rw [HBE.out] at this; exact this))).grown hgr (by have := HB5.out.size; have := HBE.out; simp; omega) hvo)
        have HX6 : Hid (Exo B w4 w'') := Lib.hid ((HX5.out.below hb6).grown hgr HQ5.out)
        have HQ6 : Hid (∀ q, v'.ownBlock = some q → q = B ∨ w4.heap.size ≤ q) := Lib.hid fun q hq => by
          rcases hat with hat | hat
          · exact HQ5.out q (hat ▸ hq)
          · rw [hat] at hq
            have h1 := Option.some.inj hq
            have h2 := HX5.out.1
            simp at h1
            omega
        clear hg6 hb6 ho' hgr hat hvo hmk HEV5 HB5 HX5 HQ5
        go_wp2_with (at_builtin; refine wpList_app rfl (.tmp 54) (.tmp 59) 25 rfl _ _ _ w'' rfl rfl hrun ?_)
        clear hrun
        go_wp2
        go_roundw
        case rel => exact ⟨k + 1, by go_num, by omega, by omega, HEV6.out, HQ6.out, HB6.out, HX6.out⟩
        case measure => simp [intOf]; omega
    · obtain rfl : k = j := by omega
      obtain ⟨c1, c2, hmk⟩ := HFC.out wr HWR.out
      have hkA' : (k : Int) < (A : Int) := by omega
      have hk0 : (0 : Int) ≤ (k : Int) := by omega
      have hTR : trI x (i : Int) (k : Int) = trk x i k ++ [(f.1, f.2)] := by
        obtain ⟨h1, h2⟩ := List.getElem?_eq_some_iff.1 HF.out
        unfold trI
        rw [HA.out, if_neg (by omega)]
        simp only [Int.toNat_natCast]
        rw [getElem!_pos x k h1, h2]
      have HTK : Hid (Evk (trk x i k ++ [(f.1, f.2)])) := Lib.hid (HK.out.sub (by have := trk_len x i k; simp; omega) fun e he => by
        rcases List.mem_append.1 he with h | h
        · exact trk_mem (by rw [HA.out]; omega) h
        · rw [List.mem_singleton.1 h]; exact List.mem_of_getElem? HF.out)
      have hg6 := heap_alloc_new wr (Obj.cells #[Value.int .i64 f.1, .slice qf mf cf] 38)
      have hb6 := below_alloc wr (Obj.cells #[Value.int .i64 f.1, .slice qf mf cf] 38)
      obtain ⟨v', w'', hrun, ho', hgr, hat⟩ := app_ev2 (wr.alloc (Obj.cells #[Value.int .i64 f.1, .slice qf mf cf] 38)) B u5 (.slice qf mf cf) (trk x i k) f.1 f.2 (HEV.out.kept hb6) (by have := trk_len x i k; omega) (by have := HB.out.size; have := HBE.out; simp; omega) ⟨wr.heap.size, 0, Option.none⟩ (by rw [add_lit, cell_of_row _ _ _ _ _ _ hg6]; rfl) (by rw [add_lit, cell_of_row _ _ _ _ _ _ hg6]; rfl) (hmk.kept hb6) HUB.out
      have hvo : ∀ q, u5.ownBlock = some q → B ≤ q := fun q hq => by
        rcases HQ5.out q hq with h | h
        · omega
        · have := HS4.out; have := HS3.out; omega
      have HB6 : Hid (Below B W0 w'') := Lib.hid ((HB.out.trans (hb6.mono (by have := HB.out.size; rw [HBE.out] at this; exact this))).grown hgr (by have := HB.out.size; have := HBE.out; simp; omega) hvo)
      have HTR := Lib.hid hTR
      have hpos : 0 < (trk x i k ++ [(f.1, f.2)]).length := by simp
      generalize trk x i k ++ [(f.1, f.2)] = L at ho' HTR HTK hpos
      obtain ⟨n, hn⟩ : ∃ n, L.length = n := ⟨_, rfl⟩
      obtain ⟨g, cg, hve, hgB⟩ : ∃ g c, v' = .slice (some ⟨g, 0, Option.none⟩) n c ∧ B ≤ g := by
        obtain ⟨cs, hown, _⟩ := id ho'
        rcases hown.2 with ⟨_, h0⟩ | ⟨g, c, cur, h1, h2, _⟩
        · omega
        · rw [hn] at h1
          exact ⟨g, c, h1, h2⟩
      subst hve
      have HEV6 := Lib.hid ho'
      have hn60 : n ≤ 60 := by have := HTK.out.1; rw [hn] at this; exact this
      have HN := Lib.hid hn
      clear hg6 hb6 ho' hgr hat hvo hmk hTR hn hpos HEV HB HXO HQ5
      go_wp2_with (at_builtin; refine wpList_app rfl (.tmp 61) (.tmp 67) 25 rfl _ _ _ w'' rfl rfl hrun ?_)
      clear hrun
      go_wp2_with fail
      go_loopw [71] (fun s71 wz => ∃ (m : Nat), s71 = .int .i64 (m : Int) ∧ m ≤ n ∧ EvI wz B (.slice (some ⟨g, 0, Option.none⟩) n cg) L ∧ Below B W0 wz) (fun s _ => n - (intOf s).toNat)
      case atStart => exact ⟨0, rfl, Nat.zero_le _, HEV6.out, HB6.out⟩
      case round =>
        clear HEV6 HB6
        obtain ⟨m, rfl, hm, hev, hb⟩ := hrel
        have HEV := Lib.hid hev
        have HB := Lib.hid hb
        clear hb
        by_cases hlt : m < n
        · obtain ⟨e, he⟩ : ∃ e, L[m]? = some e := ⟨_, List.getElem?_eq_getElem (by rw [HN.out]; exact hlt)⟩
          obtain ⟨cs, hown, hce⟩ := hev
          rw [HN.out] at hown
          obtain ⟨_, u, hu, hmk, hub⟩ := hce m e he
          have hcl : cs.length = n * 2 := hown.1
          have hglt := (hown.lt g rfl).2
          obtain ⟨pu, cu, rfl, _⟩ := id hmk
          have c1 := hown.cellAt (m * 2 + 1) (by omega)
          rw [hu] at c1
          have hmn : (m : Int) < (n : Int) := by omega
          have hm0 : (0 : Int) ≤ (m : Int) := by omega
          have hwm : IntKind.i64.wrap ((m : Int) + 1) = ((m + 1 : Nat) : Int) := by rw [IntKind.wrap_i64]; omega
          have HCL := Lib.hid (clone_ms e.2 _ wr hmk (HTK.out.mk8 e (List.mem_of_getElem? he)))
          have HE := Lib.hid he
          have HGLT := Lib.hid hglt
          obtain ⟨M, hM⟩ : ∃ M, e.2.length = M := ⟨_, rfl⟩
          rw [hM] at HCL c1
          clear hown hce hmk hub hcl hglt he hu hM
          go_wp2_with (go_at_call 28; refine Hid.out ?_)
          refine Lib.hid ?_
          refine HCL.out.mono ?_
          rintro r w7 ⟨q7, c7, rfl, hm7, hq7, hb7⟩
          have HEV7 := Lib.hid (HEV.out.kept hb7)
          have HB7 : Hid (Below B W0 w7) := Lib.hid (HB.out.trans (hb7.mono (by have := HB.out.size; rw [HBE.out] at this; exact this)))
          obtain ⟨cs, hown, hce⟩ := id HEV7.out
          rw [HN.out] at hown
          have hcl : cs.length = n * 2 := hown.1
          have d1 := hown.cellAt (m * 2 + 1) (by omega)
          have fz := hown.frozenAt (m * 2 + 1)
          obtain ⟨z, hz1⟩ : ∃ z, cs[m * 2 + 1]? = some z := ⟨_, List.getElem?_eq_getElem (by omega)⟩
          rw [hz1] at d1
          have hne : ∀ q, (Value.slice q7 M c7).ownBlock = some q → g ≠ q := fun q hq e => by
            have h1 := hq7 q hq
            have h2 := HGLT.out
            omega
          have HEV8 := Lib.hid (HEV7.out.marks HN.out HE.out hm7 hne).1
          have HB8 : Hid (Below B W0 (w7.setCell ⟨g, m * 2 + 1, Option.none⟩ (.slice q7 M c7))) := Lib.hid (HB7.out.setCell (p := ⟨g, m * 2 + 1, Option.none⟩) hgB _)
          clear hown hce hcl hz1 hne hm7 hq7 hb7 c1
          go_wp2_with fail
          go_roundw
          case rel => exact ⟨m + 1, by go_num, by omega, HEV8.out, HB8.out⟩
          case measure => simp [intOf]; omega
        · have HRES : Hid (EvS wr (.slice (some ⟨g, 0, Option.none⟩) n cg) (trI x (i : Int) (k : Int))) := Lib.hid (by rw [HTR.out]; exact hev.evs)
          have HBW : Hid (Below w.heap.size w wr) := Lib.hid (by
            rw [HX.out]
            exact HW0.out.trans (HB.out.mono (by have := HS0.out; have := HBE.out; omega)))
          clear hev
          go_wp2
          go_ret
          exact ⟨_, rfl, HRES.out, HBW.out⟩
end Go.Proofs.Ytcbpkagegdfidaa
