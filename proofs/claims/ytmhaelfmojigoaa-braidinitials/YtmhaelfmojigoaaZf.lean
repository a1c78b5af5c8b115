/- braid.Form: the events in the one form's order. -/
import Derived.Test.YtmhaelfmojigoaaZn
import Derived.Test.YtmhaelfmojigoaaZo
import Derived.Test.YtmhaelfmojigoaaZv
set_option linter.unusedSimpArgs false
set_option linter.unusedVariables false
namespace Go.Proofs.Ytmhaelfmojigoaa
open Go.RowKit

set_option maxRecDepth 100000 in
set_option maxHeartbeats 16000000 in
theorem form_o (x : Evl) (v : Value) (w : World) (hs : EvS w v x) (hk : Evk x) : Calls Try.prog 16 #[v] w fun e w' => ∃ v', e = .returned v' ∧ EvS w' v' (nf edep (·.1) x) ∧ Below w.heap.size w w' := by
  have HN := Lib.hid fun w' (k : Below w.heap.size w w') => normal_o x v w' (hs.kept k) hk
  have HK := Lib.hid hk
  obtain ⟨p, cap, rfl, hcap, hcm, h4⟩ := hs
  have hA60 : x.length ≤ 60 := hk.1
  obtain ⟨A, hA⟩ : ∃ A, x.length = A := ⟨_, rfl⟩
  rw [hA] at HN hcap hA60 ⊢
  have HA := Lib.hid hA
  have H4 := Lib.hid h4
  obtain ⟨i0, hi, hz0, hz1, hz2⟩ := ev_info
  clear h4 hk hA
  go_enter Try.func16, Try.ntmps16
  go_wp2_with (at_make; refine wpList_make_own _ rfl _ _ 25 rfl w.heap.size 39 i0 _ 2 Try.underlying25 hi hz0 hz1 .i64 .i64 (A : Int) A rfl rfl rfl (by rw [hz2]; omega) (by unfold maxLen; omega) (Nat.le_refl _) ?_)
  intro w1 hown hgr
  have HB0 : Hid (Below w.heap.size w w1) := Lib.hid ((Below.refl _ w).grown hgr (Nat.le_refl _) (fun k hk => by cases hk))
  have HI0 : Hid (EvI w1 w.heap.size (.slice (some ⟨w.heap.size, 0, Option.none⟩) 0 A) []) := Lib.hid ⟨[], hown, fun i e h => by simp at h⟩
  have HN1 := Lib.hid (HN.out w1 HB0.out)
  have HLT : Hid (w.heap.size < w1.heap.size) := Lib.hid (World.ownsRow.lt hown w.heap.size rfl).2
  clear hown hgr hi hz0 hz1 hz2 HN
  go_wp2_with (go_at_call 13; refine Hid.out ?_)
  refine Lib.hid ?_
  refine HN1.out.mono ?_
  rintro e w2 ⟨v2, rfl, hn, hnq, hb2⟩
  have hFl : (nfI edep (·.1) x).length = A := by rw [nfI_len, HA.out]
  have hFm : ∀ i ∈ nfI edep (·.1) x, i < A := fun i hi => by rw [← HA.out]; exact nfI_lt hi
  have hFx : (nfI edep (·.1) x).map (fun i => x[i]!) = nf edep (·.1) x := nfI_map x
  generalize nfI edep (·.1) x = F at hn hFl hFm hFx
  obtain ⟨pF, cF, hve, hcF, _⟩ := id hn
  rw [hFl] at hve hcF
  subst hve
  have HF2 := Lib.hid hn
  have HFL := Lib.hid hFl
  have HFM := Lib.hid hFm
  have HFX := Lib.hid hFx
  have HB2 : Hid (Below w.heap.size w w2) := Lib.hid (HB0.out.trans (hb2.mono HB0.out.size))
  have HI2 := Lib.hid (HI0.out.kept hb2)
  have HNQ : Hid (∀ q, (Value.slice pF A cF).ownBlock = some q → (Value.slice (some ⟨w.heap.size, 0, Option.none⟩) 0 A).ownBlock ≠ some q) := Lib.hid fun q hq e => by
    have h1 := hnq q hq
    have h2 : w.heap.size = q := Option.some.inj e
    have h3 : w.heap.size < w1.heap.size := HLT.out
    omega
  clear HN1 hFl hFm hFx hb2 HI0 HB0 hn hnq HLT
  go_wp2
  go_loopw [3, 12] (fun s3 s12 wr => ∃ (m : Nat), s12 = .int .i64 (m : Int) ∧ m ≤ A ∧ EvI wr w.heap.size s3 ((F.take m).map (fun i => x[i]!)) ∧ NsS wr (.slice pF A cF) F ∧ (∀ q, (Value.slice pF A cF).ownBlock = some q → s3.ownBlock ≠ some q) ∧ Below w.heap.size w wr) (fun _ s _ => A - (intOf s).toNat)
  case atStart => exact ⟨0, rfl, by omega, by simpa using HI2.out, HF2.out, HNQ.out, HB2.out⟩
  case round =>
    clear HI2 HF2 HNQ HB2
    obtain ⟨m, rfl, hm, hi0, hns, hnq, hb⟩ := hrel
    by_cases hlt : m < A
    · obtain ⟨i, hi⟩ : ∃ i, F[m]? = some i := ⟨_, List.getElem?_eq_getElem (by rw [HFL.out]; exact hlt)⟩
      have hij := HFM.out i (List.mem_of_getElem? hi)
      obtain ⟨f, hf⟩ : ∃ f, x[i]? = some f := ⟨_, List.getElem?_eq_getElem (by rw [HA.out]; exact hij)⟩
      obtain ⟨b0, o0, rfl, hbb, hr⟩ : ∃ b o, p = some ⟨b, o, Option.none⟩ ∧ b < w.heap.size ∧ EvR w b o x := by
        rcases H4.out with ⟨_, e⟩ | h
        · rw [e] at hf; simp at hf
        · exact h
      obtain ⟨b1, o1, rfl, c0⟩ : ∃ b o, pF = some ⟨b, o, Option.none⟩ ∧ wr.cell? ⟨b, o + m, Option.none⟩ = some (.int .i64 (i : Int)) := by
        obtain ⟨_, _, h1, _, h2⟩ := hns
        simp only [Value.slice.injEq] at h1
        obtain ⟨rfl, _, rfl⟩ := h1
        rcases h2 with ⟨_, e⟩ | ⟨b, o, rfl, _, h⟩
        · rw [e] at hi; simp at hi
        · exact ⟨b, o, rfl, h m i hi⟩
      obtain ⟨qf, mf, cf, hfc⟩ := hr.at hbb hf
      obtain ⟨c1, c2, hmk⟩ := hfc wr hb
      have hml : (m : Int) < (A : Int) := by omega
      have hil : (i : Int) < (A : Int) := by omega
      have hmc : m ≤ cF := by omega
      have HC := Lib.hid (own_any f.1 f.2 _ wr hmk (HK.out.mk8 f (List.mem_of_getElem? hf)))
      have hx' : (F.take (m + 1)).map (fun i => x[i]!) = (F.take m).map (fun i => x[i]!) ++ [(f.1, f.2)] := by
        rw [show F.take (m + 1) = F.take m ++ (F[m]?).toList from List.take_add_one, hi, List.map_append]
        simp [hf]
      have HX := Lib.hid hx'
      have HI := Lib.hid hi0
      have HNS := Lib.hid hns
      have HNQ := Lib.hid hnq
      have HB := Lib.hid hb
      clear hfc hr hmk hf hi hx' hi0 hns hnq hb
      go_wp2_with (go_at_call 38; refine Hid.out ?_)
      refine Lib.hid ?_
      refine HC.out.mono ?_
      rintro e w3 ⟨u, rfl, hmu, huq, hb3⟩
      have hB3 := HB.out.trans (hb3.mono HB.out.size)
      have hg := heap_alloc_new w3 (Obj.cells #[Value.int .i64 f.1, u] 39)
      have hWa := below_alloc w3 (Obj.cells #[Value.int .i64 f.1, u] 39)
      have hi3 := HI.out.kept hb3
      obtain ⟨v', w', hrun, hi', hg', hat⟩ := app_ev2 (w3.alloc (Obj.cells #[Value.int .i64 f.1, u] 39)) w.heap.size _ u _ f.1 f.2 (hi3.kept hWa) (by rw [List.length_map, List.length_take]; omega) (by have := hB3.size; simp; omega) ⟨w3.heap.size, 0, Option.none⟩ (by rw [add_lit, cell_of_row _ _ _ _ _ _ hg]; rfl) (by rw [add_lit, cell_of_row _ _ _ _ _ _ hg]; rfl) (hmu.kept hWa)
        (fun q hq e => by
          have h1 := huq q hq
          obtain ⟨cs, hown, _⟩ := HI.out
          have h2 := (hown.lt q e).2
          omega)
      have HI' : Hid (EvI w' w.heap.size v' ((F.take (m + 1)).map (fun i => x[i]!))) := Lib.hid (by rw [HX.out]; exact hi')
      have HB' : Hid (Below w.heap.size w w') := Lib.hid ((hB3.trans (hWa.mono hB3.size)).grown hg' (by have := hB3.size; simp; omega) (fun q hq => by
        obtain ⟨cs, hown, _⟩ := HI.out
        exact (hown.lt q hq).1))
      have hns3 := (HNS.out.kept hb3).kept hWa
      have HNS' : Hid (NsS w' (.slice (some ⟨b1, o1, Option.none⟩) A cF) F) := Lib.hid (hns3.grown hg' (fun q hq => HNQ.out q hq))
      have HNQ' : Hid (∀ q, (Value.slice (some ⟨b1, o1, Option.none⟩) A cF).ownBlock = some q → v'.ownBlock ≠ some q) := Lib.hid fun q hq e => by
        rcases hat with hat | hat
        · exact HNQ.out q hq (hat.symm.trans e)
        · obtain ⟨_, _, h1, _, h2⟩ := hns3
          simp only [Value.slice.injEq] at h1
          obtain ⟨rfl, _, rfl⟩ := h1
          rcases h2 with ⟨e2, _⟩ | ⟨b, o, e2, hlt2, _⟩
          · cases e2
          · cases e2
            have h3 := Option.some.inj (hat.symm.trans e)
            have h4 : b1 = q := Option.some.inj hq
            omega
      clear hB3 hg hWa hi3 hi' hg' hat hns3 hmu huq hb3 HC HI HB HNS HNQ HX
      go_wp2_with (at_builtin; refine wpList_app rfl (.tmp 16) (.tmp 22) 25 rfl _ _ _ w' rfl rfl hrun ?_)
      clear hrun c0 c1 c2
      go_wp2
      go_roundw
      case rel => exact ⟨m + 1, by go_num, by omega, HI'.out, HNS'.out, HNQ'.out, HB'.out⟩
      case measure => simp [intOf]; omega
    · obtain rfl : m = A := by omega
      have h := hi0
      rw [List.take_of_length_le (by rw [HFL.out]; exact Nat.le_refl _), HFX.out] at h
      have HE := Lib.hid h.evs
      have HK2 := Lib.hid hb
      clear h hi0 hns hnq hb
      go_wp2
      go_ret
      exact ⟨_, rfl, HE.out, HK2.out⟩
end Go.Proofs.Ytmhaelfmojigoaa
