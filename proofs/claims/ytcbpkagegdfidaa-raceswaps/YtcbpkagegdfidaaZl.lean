/- braid.lowest: the place of the lowest thread's event, of those that wait for none. -/
import Derived.Test.YtcbpkagegdfidaaZr
set_option linter.unusedSimpArgs false
set_option linter.unusedVariables false
namespace Go.Proofs.Ytcbpkagegdfidaa
open Go.RowKit

/-- The best of the first m that wait for none. -/
def lws (x : Evl) (g : Nat → Int) (m : Nat) : Option Nat := mnF (thi x) Option.none ((List.range m).filter fun j => decide (g j = 0))
theorem lws_step (x : Evl) (g : Nat → Int) (m : Nat) : lws x g (m + 1) = if g m = 0 then nxt (thi x m) (thi x) m (lws x g m) else lws x g m := by
  unfold lws
  rw [List.range_succ, List.filter_append, List.filter_cons, List.filter_nil]
  by_cases h : g m = 0
  · rw [if_pos (by simpa using h), if_pos h, nxt_is]
  · rw [if_neg (by simpa using h), if_neg h, List.append_nil]
theorem lws_lt {x : Evl} {g : Nat → Int} {m c : Nat} (h : lws x g m = some c) : c < m ∧ g c = 0 := by
  rcases mnF_mem (thi x) _ Option.none c h with h | h
  · obtain ⟨h1, h2⟩ := List.mem_filter.1 h
    exact ⟨List.mem_range.1 h1, by simpa using h2⟩
  · cases h

set_option maxRecDepth 100000 in
set_option maxHeartbeats 16000000 in
theorem lowest_any (x : Evl) (g : Nat → Int) (base B : Nat) (v : Value) (w : World) (hs : EvS w v x) (hl : x.length ≤ 1000) (hI : IsR w base B x.length g) :
    Calls Try.prog 49 #[v, .slice (some ⟨B, 0, Option.none⟩) x.length x.length] w fun e w' => e = .returned (.int .i64 (bst (lws x g x.length))) ∧ Below w.heap.size w w' := by
  obtain ⟨p, cap, rfl, hcap, hcm, h4⟩ := hs
  obtain ⟨A, hA⟩ : ∃ A, x.length = A := ⟨_, rfl⟩
  rw [hA] at hcap hl hI ⊢
  have HA := Lib.hid hA
  have H4 := Lib.hid h4
  have HI := Lib.hid hI
  clear hA h4 hI
  go_enter Try.func49, Try.ntmps49
  go_wp2
  go_loopw [5, 10] (fun s5 s10 wr => ∃ (m : Nat), s5 = .int .i64 (bst (lws x g m)) ∧ s10 = .int .i64 (m : Int) ∧ m ≤ A ∧ Below w.heap.size w wr) (fun _ s _ => A - (intOf s).toNat)
  case atStart => exact ⟨0, rfl, rfl, Nat.zero_le _, Below.refl _ _⟩
  case round =>
    obtain ⟨m, rfl, rfl, hm, hb⟩ := hrel
    have HB := Lib.hid hb
    by_cases hlt : m < A
    · obtain ⟨f, hf⟩ : ∃ f, x[m]? = some f := ⟨_, List.getElem?_eq_getElem (by rw [HA.out]; exact hlt)⟩
      obtain ⟨b0, o0, rfl, hbb, hr⟩ : ∃ b o, p = some ⟨b, o, Option.none⟩ ∧ b < w.heap.size ∧ EvR w b o x := by
        rcases H4.out with ⟨_, e⟩ | h
        · rw [e] at hf; simp at hf
        · exact h
      have c0 : wr.cell? ⟨B, m, Option.none⟩ = some (.int .i64 (g m)) := (hb.cell (p := ⟨B, m, Option.none⟩) HI.out.lt.2).trans (HI.out.at hlt)
      have c1 : wr.cell? ⟨b0, o0 + m * 2, Option.none⟩ = some (.int .i64 f.1) := (hb.cell (p := ⟨b0, _, Option.none⟩) hbb).trans (hr m f hf).1
      have HST := Lib.hid (lws_step x g m)
      have HTH := Lib.hid (thi_at hf)
      have hml : (m : Int) < (A : Int) := by omega
      obtain ⟨n, hn⟩ : ∃ n, g m = n := ⟨_, rfl⟩
      rw [hn] at c0
      have HN := Lib.hid hn
      have HR := Lib.hid hr
      obtain ⟨L, hL⟩ : ∃ L, lws x g m = L := ⟨_, rfl⟩
      have hmem : ∀ c, L = some c → c < m := fun c hc => (lws_lt (by rw [hL]; exact hc)).1
      rw [hL]
      have HL := Lib.hid hL
      clear hf hr hn hb hL
      by_cases hz : n = 0
      · subst hz
        cases L with
        | none =>
          clear hmem
          simp only [bst]
          go_wp2_with fail
          go_quiet (fail)
          have HZ : Hid (Below w.heap.size w (wr.drewN nq)) := Lib.hid (HB.out.trans ⟨rfl, rfl, rfl, Nat.le_refl _, fun _ _ => rfl⟩)
          clear c0 c1
          generalize wr.drewN nq = w9 at HZ ⊢
          go_wp2
          go_roundw
          case rel => exact ⟨m + 1, by rw [HST.out, if_pos HN.out, HL.out]; rfl, by go_num, by omega, HZ.out⟩
          case measure => simp [intOf]; omega
        | some c =>
          have hcm2 := hmem c rfl
          obtain ⟨e, he⟩ : ∃ e, x[c]? = some e := ⟨_, List.getElem?_eq_getElem (by rw [HA.out]; omega)⟩
          have c2 : wr.cell? ⟨b0, o0 + c * 2, Option.none⟩ = some (.int .i64 e.1) := (HB.out.cell (p := ⟨b0, _, Option.none⟩) hbb).trans (HR.out c e he).1
          have HTE := Lib.hid (thi_at he)
          have hn1 : ¬ (c : Int) < 0 := by omega
          have hcA : (c : Int) < (A : Int) := by omega
          clear hmem he
          simp only [bst]
          by_cases hcmp : f.1 < e.1
          · go_wp2_with fail
            go_quiet (fail)
            have HZ : Hid (Below w.heap.size w (wr.drewN nq)) := Lib.hid (HB.out.trans ⟨rfl, rfl, rfl, Nat.le_refl _, fun _ _ => rfl⟩)
            clear c0 c1 c2
            generalize wr.drewN nq = w9 at HZ ⊢
            go_wp2
            go_roundw
            case rel => exact ⟨m + 1, by rw [HST.out, if_pos HN.out, HL.out, HTH.out]; show _ = Value.int .i64 (bst (some (if f.1 < thi x c then m else c))); rw [HTE.out, if_pos hcmp]; rfl, by go_num, by omega, HZ.out⟩
            case measure => simp [intOf]; omega
          · go_wp2_with fail
            go_quiet (fail)
            have HZ : Hid (Below w.heap.size w (wr.drewN nq)) := Lib.hid (HB.out.trans ⟨rfl, rfl, rfl, Nat.le_refl _, fun _ _ => rfl⟩)
            clear c0 c1 c2
            generalize wr.drewN nq = w9 at HZ ⊢
            go_wp2
            go_roundw
            case rel => exact ⟨m + 1, by rw [HST.out, if_pos HN.out, HL.out, HTH.out]; show _ = Value.int .i64 (bst (some (if f.1 < thi x c then m else c))); rw [HTE.out, if_neg (by omega)]; rfl, by go_num, by omega, HZ.out⟩
            case measure => simp [intOf]; omega
      · have hzb : (n == 0) = false := by simp [hz]
        have hzd : decide (n = 0) = false := by simp [hz]
        obtain ⟨z, hzl⟩ : ∃ z, bst L = z := ⟨_, rfl⟩
        rw [hzl]
        have HZL := Lib.hid hzl
        clear hzl hmem
        go_wp2_with fail
        go_quiet (fail)
        have HZ : Hid (Below w.heap.size w (wr.drewN nq)) := Lib.hid (HB.out.trans ⟨rfl, rfl, rfl, Nat.le_refl _, fun _ _ => rfl⟩)
        clear c0 c1
        generalize wr.drewN nq = w9 at HZ ⊢
        go_wp2
        go_roundw
        case rel => exact ⟨m + 1, by rw [HST.out, if_neg (by rw [HN.out]; exact hz), HL.out, HZL.out], by go_num, by omega, HZ.out⟩
        case measure => simp [intOf]; omega
    · obtain rfl : m = A := by omega
      go_wp2
      go_ret
      exact ⟨rfl, HB.out⟩
end Go.Proofs.Ytcbpkagegdfidaa
