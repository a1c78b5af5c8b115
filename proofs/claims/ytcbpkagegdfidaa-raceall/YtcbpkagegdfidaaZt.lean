/- braid.take: an event is no longer left. -/
import Derived.Test.YtcbpkagegdfidaaZl
import Derived.Deep.RegionHeld3
import Derived.BigRegion
set_option linter.unusedSimpArgs false
set_option linter.unusedVariables false
namespace Go.Proofs.Ytcbpkagegdfidaa
open Go.RowKit

/-- What they wait for, while one is being taken: those below J know it. -/
def tks (x : Evl) (f : Nat → Bool) (b J : Nat) (j : Nat) : Int := if j < J ∨ j = b then wts (dpi x) (outF f b) j else wts (dpi x) f j
theorem tks_at {x : Evl} {f : Nat → Bool} {b J : Nat} (h : b < J) : tks x f b J J = wts (dpi x) f J := by
  unfold tks
  rw [if_neg (by omega)]
theorem tks_start {x : Evl} {f : Nat → Bool} {b : Nat} (hf : f b = true) (j : Nat) : upd (wts (dpi x) f) b (-1) j = tks x f b (b + 1) j := by
  unfold tks upd
  by_cases hj : j = b
  · rw [if_pos hj, if_pos (.inr hj), wts_out hf, if_pos hj]
  · rw [if_neg hj]
    by_cases hlt : j < b + 1
    · rw [if_pos (.inl hlt), wts_out hf, if_neg hj, if_neg (by omega)]
    · rw [if_neg (by omega)]
theorem tks_less {x : Evl} {f : Nat → Bool} {b J : Nat} (hf : f b = true) (hJ : b < J) (hn : 0 < wts (dpi x) f J) (hd : dpi x b J = true) (j : Nat) : upd (tks x f b J) J (wts (dpi x) f J - 1) j = tks x f b (J + 1) j := by
  unfold tks upd
  by_cases hj : j = J
  · subst hj
    rw [if_pos rfl, if_pos (.inl (by omega)), wts_out hf, if_neg (by omega), if_pos ⟨hJ, hn, hd⟩]
  · rw [if_neg hj]
    show (if j < J ∨ j = b then wts (dpi x) (outF f b) j else wts (dpi x) f j) = _
    by_cases h : j < J ∨ j = b
    · rw [if_pos h, if_pos (by omega)]
    · rw [if_neg h, if_neg (by omega)]
theorem tks_same {x : Evl} {f : Nat → Bool} {b J : Nat} (hf : f b = true) (hJ : b < J) (hn : ¬ (0 < wts (dpi x) f J ∧ dpi x b J = true)) (j : Nat) : tks x f b J j = tks x f b (J + 1) j := by
  unfold tks
  by_cases hj : j = J
  · subst hj
    rw [if_neg (by omega), if_pos (.inl (by omega)), wts_out hf, if_neg (by omega), if_neg (fun h => hn h.2)]
  · by_cases h : j < J ∨ j = b
    · rw [if_pos h, if_pos (by omega)]
    · rw [if_neg h, if_neg (by omega)]

set_option maxRecDepth 100000 in
set_option maxHeartbeats 16000000 in
theorem take_any (x : Evl) (f : Nat → Bool) (b B : Nat) (v : Value) (w0 w : World) (hs : EvS w0 v x) (hk : Evk x) (hw : Below w0.heap.size w0 w) (hI : IsR w w0.heap.size B x.length (wts (dpi x) f)) (hb : b < x.length) (hf : f b = true) :
    Calls Try.prog 50 #[v, .slice (some ⟨B, 0, Option.none⟩) x.length x.length, .int .i64 (b : Int)] w fun e w' => e = .returned (.tuple #[]) ∧ IsR w' w0.heap.size B x.length (wts (dpi x) (outF f b)) ∧ w.grownBy w' (some B) := by
  obtain ⟨p, cap, rfl, hcap, hcm, h4⟩ := hs
  obtain ⟨eb, heb⟩ : ∃ e, x[b]? = some e := ⟨_, List.getElem?_eq_getElem hb⟩
  obtain ⟨A, hA⟩ : ∃ A, x.length = A := ⟨_, rfl⟩
  obtain ⟨b0, o0, rfl, hbb, hr⟩ : ∃ b o, p = some ⟨b, o, Option.none⟩ ∧ b < w0.heap.size ∧ EvR w0 b o x := by
    rcases h4 with ⟨_, e⟩ | h
    · rw [e] at heb; simp at heb
    · exact h
  obtain ⟨qb, mb, cb, hbc⟩ := hr.at hbb heb
  rw [hA] at hcap hI hb ⊢
  have hA60 : A ≤ 60 := by rw [← hA]; exact hk.1
  have HA := Lib.hid hA
  have HK := Lib.hid hk
  have HR := Lib.hid hr
  have HBC := Lib.hid hbc
  have HEB := Lib.hid heb
  have hBw := hI.lt
  have c0 := hI.at hb
  have f0 := hI.frz b
  have HW := Lib.hid hw
  have HFB := Lib.hid hf
  have hbA : (b : Int) < (A : Int) := by omega
  have hset := hI.set hb (-1)
  have HI0 : Hid (IsR (w.setCell ⟨B, b, Option.none⟩ (.int .i64 (-1))) w0.heap.size B A (tks x f b (b + 1))) := Lib.hid (hset.congr fun j _ => tks_start hf j)
  have HG0 : Hid (w.grownBy (w.setCell ⟨B, b, Option.none⟩ (.int .i64 (-1))) (some B)) := Lib.hid (gb_set w ⟨B, b, Option.none⟩ _)
  have HBW := Lib.hid hBw
  have hb1 : IntKind.i64.wrap ((b : Int) + 1) = ((b + 1 : Nat) : Int) := by rw [IntKind.wrap_i64]; omega
  generalize (wts (dpi x) f b) = nb at c0
  clear hA hk hr hbc heb hI hw hf hset hBw h4
  go_enter Try.func50, Try.ntmps50
  go_wp2
  go_loopw [6] (fun s6 wr => ∃ (J : Nat), s6 = .int .i64 (J : Int) ∧ b < J ∧ J ≤ A ∧ IsR wr w0.heap.size B A (tks x f b J) ∧ w.grownBy wr (some B)) (fun s _ => A - (intOf s).toNat)
  case atStart => exact ⟨b + 1, by go_num, by omega, by omega, HI0.out, HG0.out⟩
  case round =>
    clear HI0 HG0 c0 f0
    obtain ⟨J, rfl, hbJ, hJ, hI, hg⟩ := hrel
    have HI := Lib.hid hI
    have HG := Lib.hid hg
    clear hI hg
    by_cases hlt : J < A
    · obtain ⟨ej, hej⟩ : ∃ e, x[J]? = some e := ⟨_, List.getElem?_eq_getElem (by rw [HA.out]; exact hlt)⟩
      obtain ⟨qj, mj, cj, hjc⟩ := HR.out.at hbb hej
      have HJC := Lib.hid hjc
      have HB0 : Hid (Below w0.heap.size w0 wr) := Lib.hid (HW.out.grown HG.out HW.out.size (fun k hk => by cases hk; exact HBW.out.1))
      have c0 := HI.out.at hlt
      have f0 := HI.out.frz J
      rw [tks_at hbJ] at c0
      obtain ⟨n, hn⟩ : ∃ n, wts (dpi x) f J = n := ⟨_, rfl⟩
      rw [hn] at c0
      have hJl : (J : Int) < (A : Int) := by omega
      have hjw : IntKind.i64.wrap ((J : Int) + 1) = ((J + 1 : Nat) : Int) := by rw [IntKind.wrap_i64]; omega
      have HN := Lib.hid hn
      have hn60 : n ≤ 60 := by rw [← hn]; unfold wts; split <;> have := wtn_le (dep := dpi x) f J J <;> omega
      have HD : Hid (dpi x b J = edep eb ej) := Lib.hid (dpi_at HEB.out hej)
      have HLB : Hid (eb.2.length ≤ 1000 ∧ ej.2.length ≤ 1000) := Lib.hid ⟨HK.out.mk8 eb (List.mem_of_getElem? HEB.out), HK.out.mk8 ej (List.mem_of_getElem? hej)⟩
      clear hn hej hjc
      by_cases hpos : 0 < n
      · have keep : ∀ W, Below wr.heap.size wr W → (Below wr.heap.size wr W ∧ W.cell? ⟨B, J, Option.none⟩ = some (.int .i64 n) ∧ W.cell? ⟨b0, o0 + b * 2, Option.none⟩ = some (.int .i64 eb.1) ∧ W.cell? ⟨b0, o0 + b * 2 + 1, Option.none⟩ = some (.slice qb mb cb) ∧ W.cell? ⟨b0, o0 + J * 2, Option.none⟩ = some (.int .i64 ej.1) ∧ W.cell? ⟨b0, o0 + J * 2 + 1, Option.none⟩ = some (.slice qj mj cj)) := fun W kk => by
          have kw := HB0.out.trans (kk.mono HB0.out.size)
          have g1 := HBC.out W kw
          have g2 := HJC.out W kw
          exact ⟨kk, (kk.cell (p := ⟨B, J, Option.none⟩) HI.out.lt.2).trans c0, g1.1, g1.2.1, g2.1, g2.2.1⟩
        have K2 : Hid (∀ W, (Below wr.heap.size wr W ∧ W.cell? ⟨B, J, Option.none⟩ = some (.int .i64 n) ∧ W.cell? ⟨b0, o0 + b * 2, Option.none⟩ = some (.int .i64 eb.1) ∧ W.cell? ⟨b0, o0 + b * 2 + 1, Option.none⟩ = some (.slice qb mb cb) ∧ W.cell? ⟨b0, o0 + J * 2, Option.none⟩ = some (.int .i64 ej.1) ∧ W.cell? ⟨b0, o0 + J * 2 + 1, Option.none⟩ = some (.slice qj mj cj)) → Calls Try.prog 17 #[.agg #[.int .i64 eb.1, .slice qb mb cb], .agg #[.int .i64 ej.1, .slice qj mj cj]] W fun r w' => r = .returned (.bool (edep eb ej)) ∧ (Below wr.heap.size wr w' ∧ w'.cell? ⟨B, J, Option.none⟩ = some (.int .i64 n) ∧ w'.cell? ⟨b0, o0 + b * 2, Option.none⟩ = some (.int .i64 eb.1) ∧ w'.cell? ⟨b0, o0 + b * 2 + 1, Option.none⟩ = some (.slice qb mb cb) ∧ w'.cell? ⟨b0, o0 + J * 2, Option.none⟩ = some (.int .i64 ej.1) ∧ w'.cell? ⟨b0, o0 + J * 2 + 1, Option.none⟩ = some (.slice qj mj cj))) := Lib.hid fun W kk => by
          have kw := HB0.out.trans (kk.1.mono HB0.out.size)
          refine (depend_at eb ej _ _ W (HBC.out W kw).2.2 (HJC.out W kw).2.2 HLB.out.1 HLB.out.2).mono ?_
          rintro r w' ⟨rfl, hb⟩
          exact ⟨rfl, keep w' (kk.1.trans (hb.mono kk.1.size))⟩
        have hs0 := keep wr.drew ⟨rfl, rfl, rfl, Nat.le_refl _, fun _ _ => rfl⟩
        clear keep c0
        obtain ⟨d, hd⟩ : ∃ d, edep eb ej = d := ⟨_, rfl⟩
        rw [hd] at K2 HD
        clear hd
        go_wp2_with fail
        go_region_held3 (fun w' => (Below wr.heap.size wr w' ∧ w'.cell? ⟨B, J, Option.none⟩ = some (.int .i64 n) ∧ w'.cell? ⟨b0, o0 + b * 2, Option.none⟩ = some (.int .i64 eb.1) ∧ w'.cell? ⟨b0, o0 + b * 2 + 1, Option.none⟩ = some (.slice qb mb cb) ∧ w'.cell? ⟨b0, o0 + J * 2, Option.none⟩ = some (.int .i64 ej.1) ∧ w'.cell? ⟨b0, o0 + J * 2 + 1, Option.none⟩ = some (.slice qj mj cj)))
          (first | exact hs0 | assumption)
          (first
            | (go_at_call 17; refine (K2.out _ (by assumption)).mono ?_; rintro r w' ⟨rfl, hsA⟩))
        have hI2 := HI.out.kept hsA.1
        have hg2 := HG.out.trans (gb_below hsA.1 (some B))
        have c0 := hsA.2.1
        have f1 := hI2.frz J
        clear hsA hs0 K2
        cases d with
        | true =>
          have hnw : IntKind.i64.wrap (n - 1) = n - 1 := by rw [IntKind.wrap_i64]; omega
          have hI3 := (hI2.set hlt (n - 1)).congr fun j _ => (by have h := tks_less HFB.out hbJ (by rw [HN.out]; exact hpos) HD.out j; rw [HN.out] at h; exact h : upd (tks x f b J) J (n - 1) j = tks x f b (J + 1) j)
          have HI3 := Lib.hid hI3
          have HG3 := Lib.hid (hg2.trans (gb_set w' ⟨B, J, Option.none⟩ (.int .i64 (n - 1))))
          clear hI2 hg2 hI3
          go_wp2
          go_roundw
          case rel => exact ⟨J + 1, by go_num, by omega, by omega, HI3.out, HG3.out⟩
          case measure => simp [intOf]; omega
        | false =>
          have HI3 := Lib.hid (hI2.congr fun j _ => tks_same HFB.out hbJ (by rw [HD.out]; simp) j)
          have HG3 := Lib.hid hg2
          clear hI2 hg2 c0 f1
          go_wp2
          go_roundw
          case rel => exact ⟨J + 1, by go_num, by omega, by omega, HI3.out, HG3.out⟩
          case measure => simp [intOf]; omega
      · have hpd : decide (0 < n) = false := decide_eq_false hpos
        have HI3 := Lib.hid (HI.out.congr fun j _ => tks_same HFB.out hbJ (by rw [HN.out]; exact fun h => hpos h.1) j)
        go_wp2_with fail
        go_quiet (fail)
        have HZ : Hid (IsR (wr.drewN nq) w0.heap.size B A (tks x f b (J + 1)) ∧ w.grownBy (wr.drewN nq) (some B)) := Lib.hid ⟨HI3.out.kept ⟨rfl, rfl, rfl, Nat.le_refl _, fun _ _ => rfl⟩, HG.out.trans ⟨rfl, rfl, rfl, Nat.le_refl _, fun _ _ _ => rfl⟩⟩
        clear c0 f0
        generalize wr.drewN nq = w9 at HZ ⊢
        go_wp2
        go_roundw
        case rel => exact ⟨J + 1, by go_num, by omega, by omega, HZ.out.1, HZ.out.2⟩
        case measure => simp [intOf]; omega
    · obtain rfl : J = A := by omega
      have HI3 : Hid (IsR wr w0.heap.size B J (wts (dpi x) (outF f b))) := Lib.hid (HI.out.congr fun j hj => by unfold tks; rw [if_pos (.inl hj)])
      go_wp2
      exact bodyPost_end (results_none rfl _ _ _) rfl ⟨rfl, HI3.out, HG.out⟩
end Go.Proofs.Ytcbpkagegdfidaa
