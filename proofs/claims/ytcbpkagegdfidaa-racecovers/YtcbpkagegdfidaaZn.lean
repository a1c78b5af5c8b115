/- braid.Normal: the places of the one form. -/
import Derived.Test.YtcbpkagegdfidaaZt
set_option linter.unusedSimpArgs false
set_option linter.unusedVariables false
namespace Go.Proofs.Ytcbpkagegdfidaa
open Go.RowKit

/-- One step: the lowest of those that wait for none, and what is left then. -/
theorem nrm_step (x : Evl) (f : Nat → Bool) {A N : Nat} (hlen : ((List.range A).filter f).length = N + 1) :
    ∃ c, lws x (wts (dpi x) f) A = some c ∧ c < A ∧ f c = true ∧ ((List.range A).filter (outF f c)).length = N ∧
      nfN (dpi x) (thi x) (N + 1) ((List.range A).filter f) = c :: nfN (dpi x) (thi x) N ((List.range A).filter (outF f c)) := by
  have e : lws x (wts (dpi x) f) A = mnF (thi x) Option.none (frs (dpi x) [] ((List.range A).filter f)) := by
    rw [frs_left]
    rfl
  obtain ⟨c, hc⟩ : ∃ c, mnF (thi x) Option.none (frs (dpi x) [] ((List.range A).filter f)) = some c := by
    cases h : mnF (thi x) Option.none (frs (dpi x) [] ((List.range A).filter f)) with
    | some c => exact ⟨c, rfl⟩
    | none =>
      exfalso
      have h1 := mnF_none h
      rw [frs_all] at h1
      have h2 := picks_nil (List.map_eq_nil_iff.1 h1)
      rw [h2] at hlen
      cases hlen
  have hl := lws_lt (e.trans hc)
  obtain ⟨h1, h2, h3, h4⟩ := nfN_step (n := N) ((List.nodup_range).filter f) hc
  exact ⟨c, e.trans hc, hl.1, ((wts_zero f c).1 hl.2).1, by rw [left_out]; omega, by rw [left_out]; exact h1⟩

set_option maxRecDepth 100000 in
set_option maxHeartbeats 16000000 in
theorem normal_o (x : Evl) (v : Value) (w : World) (hs : EvS w v x) (hk : Evk x) : Calls Try.prog 36 #[v] w fun e w' => ∃ v', e = .returned v' ∧ NsS w' v' (nfI edep (·.1) x) ∧ (∀ q, v'.ownBlock = some q → w.heap.size ≤ q) ∧ Below w.heap.size w w' := by
  have HWT := Lib.hid (waiting_any x v w hs hk)
  have HS := Lib.hid hs
  have HK := Lib.hid hk
  obtain ⟨p, cap, rfl, hcap, hcm, h4⟩ := hs
  have hA60 : x.length ≤ 60 := hk.1
  have hnf := nfi_is x
  obtain ⟨A, hA⟩ : ∃ A, x.length = A := ⟨_, rfl⟩
  rw [hA] at HWT HS hcap hA60 hnf ⊢
  rw [← hnf]
  have HA := Lib.hid hA
  obtain ⟨i0, hi, hz0, hz1, hz2⟩ := in_info
  clear h4 hk hA hnf
  go_enter Try.func36, Try.ntmps36
  go_wp2_with (go_at_call 48; refine Hid.out ?_)
  refine Lib.hid ?_
  refine HWT.out.mono ?_
  rintro e w1 ⟨B, rfl, hI, hb⟩
  have hbs := hb.size
  have HI1 := Lib.hid hI
  have HB1 := Lib.hid hb
  clear hI hb HWT
  go_wp2_with (at_make; refine wpList_make_own _ rfl _ _ 40 rfl w.heap.size 3 i0 _ 1 Try.underlying40 hi hz0 hz1 .i64 .i64 (A : Int) A rfl rfl rfl (by rw [hz2]; omega) (by unfold maxLen; omega) hbs ?_)
  intro w2 hown hgr
  have HB2 : Hid (Below w.heap.size w w2) := Lib.hid (HB1.out.grown hgr hbs (fun k hk => by cases hk))
  have HI2 : Hid (IsR w2 w.heap.size B A (wts (dpi x) fun _ => true)) := Lib.hid (HI1.out.grown hgr (by simp))
  have HO2 : Hid (w2.ownsRow w.heap.size 3 1 (.slice (some ⟨w1.heap.size, 0, Option.none⟩) 0 A) 0 (nvs [])) := Lib.hid hown
  have HNE : Hid ((Value.slice (some ⟨w1.heap.size, 0, Option.none⟩) 0 A).ownBlock ≠ some B) := Lib.hid fun e => by have h1 := HI1.out.lt; have h2 : w1.heap.size = B := Option.some.inj e; omega
  have hft : (List.range A).filter (fun _ => true) = List.range A := List.filter_eq_self.2 fun _ _ => rfl
  have HL0 : Hid (((List.range A).filter fun _ => true).length = A) := Lib.hid (by rw [hft, List.length_range])
  have HF0 : Hid (([] : List Nat) ++ nfN (dpi x) (thi x) A ((List.range A).filter fun _ => true) = nf (dpi x) (thi x) (List.range A)) := Lib.hid (by rw [hft]; unfold nf; rw [List.length_range]; rfl)
  clear hft hown hgr hi hz0 hz1 hz2 hbs HI1 HB1
  go_wp2
  go_loopw [4, 13] (fun s4 s13 wr => ∃ (m : Nat) (f : Nat → Bool) (O : List Nat), s13 = .int .i64 (m : Int) ∧ m ≤ A ∧ O.length = m ∧ wr.ownsRow w.heap.size 3 1 s4 O.length (nvs O) ∧ s4.ownBlock ≠ some B ∧ IsR wr w.heap.size B A (wts (dpi x) f) ∧ ((List.range A).filter f).length = A - m ∧ O ++ nfN (dpi x) (thi x) (A - m) ((List.range A).filter f) = nf (dpi x) (thi x) (List.range A) ∧ Below w.heap.size w wr) (fun _ s _ => A - (intOf s).toNat)
  case atStart => exact ⟨0, fun _ => true, [], rfl, Nat.zero_le _, rfl, HO2.out, HNE.out, HI2.out, HL0.out, HF0.out, HB2.out⟩
  case round =>
    clear HO2 HNE HI2 HL0 HF0 HB2
    obtain ⟨m, f, O, rfl, hm, hO, hown, hne, hI, hlen, hnf, hb⟩ := hrel
    by_cases hlt : m < A
    · obtain ⟨N, hN⟩ : ∃ N, A - m = N + 1 := ⟨A - m - 1, by omega⟩
      rw [hN] at hlen hnf
      obtain ⟨c, hc, hcA, hfc, hlen2, hst⟩ := nrm_step x f hlen
      rw [hst] at hnf
      have HLO := lowest_any x (wts (dpi x) f) w.heap.size B _ wr (HS.out.kept hb) (by rw [HA.out]; omega) (by rw [HA.out]; exact hI)
      rw [HA.out, hc] at HLO
      have HLO := Lib.hid HLO
      have HT := Lib.hid fun w3 (k : Below w.heap.size w w3) (hI3 : IsR w3 w.heap.size B A (wts (dpi x) f)) => take_any x f c B _ w w3 HS.out HK.out k (by rw [HA.out]; exact hI3) (by rw [HA.out]; exact hcA) hfc
      have HB := Lib.hid hb
      have HI := Lib.hid hI
      have HOWN := Lib.hid hown
      have HNE := Lib.hid hne
      have HLEN := Lib.hid hlen2
      have HNF := Lib.hid hnf
      have HO := Lib.hid hO
      have hml : (m : Int) < (A : Int) := by omega
      obtain ⟨po, mo, co, rfl⟩ := own_form hown
      clear hb hI hown hne hlen hlen2 hnf hO hc hst
      go_wp2_with (go_at_call 49; refine Hid.out ?_)
      refine Lib.hid ?_
      refine HLO.out.mono ?_
      rintro e w3 ⟨rfl, hb3⟩
      have HB3 : Hid (Below w.heap.size w w3) := Lib.hid (HB.out.trans (hb3.mono HB.out.size))
      have HOWN3 := Lib.hid (own_kept HOWN.out hb3)
      have HT3 := HT.out w3 HB3.out (HI.out.kept hb3)
      rw [HA.out] at HT3
      have HT3 := Lib.hid HT3
      clear HLO HT hb3 HI HOWN HB
      simp only [bst]
      go_wp2_with (go_at_call 50; refine Hid.out ?_)
      refine Lib.hid ?_
      refine HT3.out.mono ?_
      rintro e w4 ⟨rfl, hI4, hg4⟩
      have hbB := hI4.lt
      have HB4 : Hid (Below w.heap.size w w4) := Lib.hid (HB3.out.grown hg4 HB3.out.size (fun k hk => by cases hk; exact hbB.1))
      have hown4 := World.ownsRow.kept HOWN3.out hg4 (by
        rcases hv : (Value.slice po mo co).ownBlock with _ | q
        · exact .inl rfl
        · exact .inr fun e => HNE.out (hv.trans e))
      have hg := heap_alloc_new w4 (Obj.cells #[Value.int .i64 (c : Int)] 3)
      have hWa := below_alloc w4 (Obj.cells #[Value.int .i64 (c : Int)] 3)
      obtain ⟨p', m', c', w', hrun, ho', hg', hat⟩ := app_ns2 (w4.alloc (Obj.cells #[Value.int .i64 (c : Int)] 3)) w.heap.size _ O c (own_kept hown4 hWa) (by rw [HO.out]; omega) (by have := HB4.out.size; simp; omega) ⟨w4.heap.size, 0, Option.none⟩ (by rw [add_lit, cell_of_row _ _ _ _ _ _ hg]; rfl)
      have HOWN' := Lib.hid ho'
      have HI' : Hid (IsR w' w.heap.size B A (wts (dpi x) (outF f c))) := Lib.hid ((hI4.kept hWa).grown hg' fun e => HNE.out e.symm)
      have HB' : Hid (Below w.heap.size w w') := Lib.hid ((HB4.out.trans (hWa.mono HB4.out.size)).grown hg' (by have := HB4.out.size; simp; omega) (fun g hgq => (hown4.lt g hgq).1))
      have HNE' : Hid ((Value.slice p' m' c').ownBlock ≠ some B) := Lib.hid fun e => by
        rcases hat with hat | hat
        · exact HNE.out (hat.symm.trans e)
        · have h1 := hat.symm.trans e
          have h2 := Option.some.inj h1
          simp at h2
          omega
      have HLO' : Hid ((O ++ [c]).length = m + 1) := Lib.hid (by rw [List.length_append, HO.out]; rfl)
      have HNF' : Hid ((O ++ [c]) ++ nfN (dpi x) (thi x) (A - (m + 1)) ((List.range A).filter (outF f c)) = nf (dpi x) (thi x) (List.range A)) := Lib.hid (by
        rw [show A - (m + 1) = N by omega, ← HNF.out, List.append_assoc]; rfl)
      have HLEN' : Hid (((List.range A).filter (outF f c)).length = A - (m + 1)) := Lib.hid (by rw [HLEN.out]; omega)
      clear HT3 hI4 hg4 hbB hown4 hg hWa ho' hg' hat HB3 HOWN3 HNE HNF HLEN HO
      go_wp2_with (at_builtin; refine wpList_app rfl (.tmp 22) (.tmp 24) 40 rfl _ _ _ w' rfl rfl hrun ?_)
      clear hrun
      go_wp2
      go_roundw
      case rel => exact ⟨m + 1, outF f c, O ++ [c], by go_num, by omega, HLO'.out, HOWN'.out, HNE'.out, HI'.out, HLEN'.out, HNF'.out, HB'.out⟩
      case measure => simp [intOf]; omega
    · obtain rfl : m = A := by omega
      have hfin : O = nf (dpi x) (thi x) (List.range m) := by have := hnf; rw [Nat.sub_self] at this; simpa [nfN] using this
      have HN := Lib.hid (ns_of_own hown)
      have HB := Lib.hid hb
      have HFIN := Lib.hid hfin
      have HQ := Lib.hid fun q hq => (hown.lt q hq).1
      clear hown hne hI hlen hnf hb hfin hO
      go_wp2
      go_ret
      exact ⟨_, rfl, by rw [← HFIN.out]; exact HN.out, HQ.out, HB.out⟩
end Go.Proofs.Ytcbpkagegdfidaa
