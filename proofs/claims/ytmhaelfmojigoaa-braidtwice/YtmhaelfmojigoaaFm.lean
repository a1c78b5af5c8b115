/- The law's Form: the events of the one form. -/
import Derived.Test.YtmhaelfmojigoaaNm
set_option linter.unusedSimpArgs false
set_option linter.unusedVariables false
namespace Go.Proofs.Ytmhaelfmojigoaa
open Go.RowKit

theorem nfi_is (x : List (Int × List (Int × Bool))) : nf (dpi x) (thi x) (List.range x.length) = nfI edep (·.1) x := rfl

set_option maxRecDepth 100000 in
set_option maxHeartbeats 8000000 in
theorem form_any (x : List (Int × List (Int × Bool))) (v : Value) (w : World) (hs : EvS w v x) (hl : x.length ≤ 1000) (h8 : ∀ e ∈ x, e.2.length ≤ 1000) :
    Calls Try.prog 17 #[v] w fun e w' => ∃ v', e = .returned v' ∧ EvS w' v' (nf edep (·.1) x) ∧ Below w.heap.size w w' := by
  have HN := Lib.hid (normal_any x v w hs hl h8)
  obtain ⟨p, cap, rfl, hcap, hcm, h4⟩ := hs
  obtain ⟨A, hA⟩ : ∃ A, x.length = A := ⟨_, rfl⟩
  rw [hA] at HN hcap hl ⊢
  have HA := Lib.hid hA
  have H4 := Lib.hid h4
  clear hA h4 h8
  go_enter Try.func17, Try.ntmps17
  go_wp2_with (go_at_call 14; refine Hid.out ?_)
  refine Lib.hid ?_
  refine HN.out.mono ?_
  rintro e w1 ⟨v1, rfl, hn, hb1⟩
  obtain ⟨F, hF⟩ : ∃ F, nf (dpi x) (thi x) (List.range A) = F := ⟨_, rfl⟩
  rw [hF] at hn
  have hFI : F = nfI edep (·.1) x := by rw [← hF, ← HA.out, nfi_is]
  have hFl : F.length = A := by rw [hFI, nfI_len, HA.out]
  have hFm : ∀ i ∈ F, i < A := fun i hi => by rw [hFI] at hi; rw [← HA.out]; exact nfI_lt hi
  have hFx : F.map (fun i => x[i]!) = nf edep (·.1) x := by rw [hFI, nfI_map]
  obtain ⟨pF, cF, hve, hcF, hF5⟩ := hn
  rw [hFl] at hve hcF
  subst hve
  have HF5 := Lib.hid hF5
  have HFL := Lib.hid hFl
  have HFM := Lib.hid hFm
  have HFX := Lib.hid hFx
  have HB1 := Lib.hid hb1
  clear HN hF hFI hFl hFm hFx hF5 hb1
  go_wp2
  go_loopw [3, 9] (fun s3 s9 wr => ∃ (m : Nat), s9 = .int .i64 (m : Int) ∧ m ≤ A ∧ EvI wr w1.heap.size s3 ((F.take m).map (fun i => x[i]!)) ∧ Below w1.heap.size w1 wr) (fun _ s _ => A - (intOf s).toNat)
  case atStart => exact ⟨0, rfl, by omega, by simpa using EvI.nil _ _, Below.refl _ _⟩
  case round =>
    obtain ⟨m, rfl, hm, hi0, hb⟩ := hrel
    have HI := Lib.hid hi0
    have HB := Lib.hid hb
    clear hi0 hb
    by_cases hlt : m < A
    · obtain ⟨i, hi⟩ : ∃ i, F[m]? = some i := ⟨_, List.getElem?_eq_getElem (by rw [HFL.out]; exact hlt)⟩
      have hij := HFM.out i (List.mem_of_getElem? hi)
      obtain ⟨f, hf⟩ : ∃ f, x[i]? = some f := ⟨_, List.getElem?_eq_getElem (by rw [HA.out]; exact hij)⟩
      obtain ⟨b0, o0, rfl, hbb, hr⟩ : ∃ b o, p = some ⟨b, o, Option.none⟩ ∧ b < w.heap.size ∧ EvR w b o x := by
        rcases H4.out with ⟨_, e⟩ | h
        · rw [e] at hf; simp at hf
        · exact h
      obtain ⟨b1, o1, rfl, hbb1, hr1⟩ : ∃ b o, pF = some ⟨b, o, Option.none⟩ ∧ b < w1.heap.size ∧ ∀ (i n : Nat), F[i]? = some n → w1.cell? ⟨b, o + i, Option.none⟩ = some (.int .i64 (n : Int)) := by
        rcases HF5.out with ⟨_, e⟩ | h
        · rw [e] at hi; simp at hi
        · exact h
      have kw := HB1.out.trans (HB.out.mono HB1.out.size)
      obtain ⟨qf, mf, cf, hfc⟩ := hr.at hbb hf
      obtain ⟨c1, c2, hmk⟩ := hfc wr kw
      have hmk0 := (hfc w (Below.refl _ _)).2.2
      have c0 : wr.cell? ⟨b1, o1 + m, Option.none⟩ = some (.int .i64 (i : Int)) := (HB.out.cell (p := ⟨b1, _, Option.none⟩) hbb1).trans (hr1 m i hi)
      have hg := heap_alloc_new wr (Obj.cells #[Value.int .i64 f.1, .slice qf mf cf] 39)
      have hWa : Below wr.heap.size wr (wr.alloc (Obj.cells #[Value.int .i64 f.1, .slice qf mf cf] 39)) := below_alloc wr _
      have hlen : ((F.take m).map (fun i => x[i]!)).length ≤ 1000 := by rw [List.length_map, List.length_take]; omega
      obtain ⟨v', w', hrun, hi', hg'⟩ := app_ev (wr.alloc (Obj.cells #[Value.int .i64 f.1, .slice qf mf cf] 39)) w1.heap.size _ (.slice qf mf cf) _ f.1 f.2 (HI.out.kept hWa) hlen (by have := HB.out.size; simp; omega) ⟨wr.heap.size, 0, Option.none⟩ (by rw [add_lit, cell_of_row _ _ _ _ _ _ hg]; rfl) (by rw [add_lit, cell_of_row _ _ _ _ _ _ hg]; rfl) (hmk.kept hWa)
        (fun g hgq e => by
          have h1 := hmk0.blk hgq
          obtain ⟨cs, hown, _⟩ := HI.out
          have h2 := (hown.lt g e).1
          have := HB1.out.size
          omega)
      have hx' : (F.take (m + 1)).map (fun i => x[i]!) = (F.take m).map (fun i => x[i]!) ++ [(f.1, f.2)] := by
        rw [show F.take (m + 1) = F.take m ++ (F[m]?).toList from List.take_add_one, hi, List.map_append]
        simp [hf]
      have HI' : Hid (EvI w' w1.heap.size v' ((F.take (m + 1)).map (fun i => x[i]!))) := Lib.hid (by rw [hx']; exact hi')
      have HB' : Hid (Below w1.heap.size w1 w') := Lib.hid ((HB.out.trans (hWa.mono HB.out.size)).grown hg' (by have := HB.out.size; simp; omega) (fun g hgq => by
        obtain ⟨cs, hown, _⟩ := HI.out
        exact (hown.lt g hgq).1))
      clear hi hf hr hr1 kw hfc hmk hmk0 hg hWa hlen hi' hg' hx'
      go_wp2_with (at_builtin; refine wpList_app rfl (.tmp 13) (.tmp 18) 25 rfl _ _ _ w' rfl rfl hrun ?_)
      clear hrun c0 c1 c2
      go_wp2
      go_roundw
      case rel => exact ⟨m + 1, by go_num, by omega, HI'.out, HB'.out⟩
      case measure => simp [intOf]; omega
    · obtain rfl : m = A := by omega
      have h := HI.out
      rw [List.take_of_length_le (by rw [HFL.out]; exact Nat.le_refl _), HFX.out] at h
      have HE := Lib.hid h.evs
      have HK := Lib.hid (HB1.out.trans (HB.out.mono HB1.out.size))
      clear h
      go_wp2
      go_ret
      exact ⟨_, rfl, HE.out, HK.out⟩
end Go.Proofs.Ytmhaelfmojigoaa
