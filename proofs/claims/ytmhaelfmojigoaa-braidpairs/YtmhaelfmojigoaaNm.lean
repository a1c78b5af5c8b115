/- The law's Normal: the places of the one form. -/
import Derived.Test.YtmhaelfmojigoaaFe
import Derived.Test.YtmhaelfmojigoaaEk
set_option linter.unusedSimpArgs false
set_option linter.unusedVariables false
namespace Go.Proofs.Ytmhaelfmojigoaa
open Go.RowKit

theorem mnF_snoc {α : Type} (thr : α → Int) : ∀ (l : List α) (b : Option α) (i : α), mnF thr b (l ++ [i]) = match mnF thr b l with
    | Option.none => some i
    | some c => some (if thr i < thr c then i else c)
  | [], Option.none, i => rfl
  | [], some b, i => rfl
  | j :: l, Option.none, i => mnF_snoc thr l (some j) i
  | j :: l, some b, i => mnF_snoc thr l (some (if thr j < thr b then j else b)) i
theorem mnF_mem {α : Type} (thr : α → Int) : ∀ (l : List α) (b : Option α) (c : α), mnF thr b l = some c → c ∈ l ∨ b = some c
  | [], b, c, h => .inr h
  | j :: l, Option.none, c, h => by
    rcases mnF_mem thr l (some j) c h with h | h
    · exact .inl (List.mem_cons_of_mem _ h)
    · cases h; exact .inl (by simp)
  | j :: l, some b, c, h => by
    rcases mnF_mem thr l (some (if thr j < thr b then j else b)) c h with h | h
    · exact .inl (List.mem_cons_of_mem _ h)
    · have := Option.some.inj h
      split at this
      · exact .inl (by rw [← this]; simp)
      · exact .inr (by rw [this])
/-- A place appended, and where the row lies then. -/
theorem app_ns2 (W : World) (base : Nat) (u : Value) (L : List Nat) (i : Nat) (h : W.ownsRow base 3 1 u L.length (nvs L)) (hl : L.length ≤ 1000) (hb : base ≤ W.heap.size) (a : Addr) (h0 : W.cell? (a.add 0) = some (.int .i64 (i : Int))) :
    ∃ p m c w', (∀ ty, (Builtin.append_ #[28, 28] ty #[u, .slice (some a) 1 1]).run Try.prog W = .ok (.slice p m c) w') ∧ w'.ownsRow base 3 1 (.slice p m c) (L ++ [i]).length (nvs (L ++ [i])) ∧ W.grownBy w' u.ownBlock ∧ ((Value.slice p m c).ownBlock = u.ownBlock ∨ (Value.slice p m c).ownBlock = some W.heap.size) := by
  obtain ⟨i0, hi, hz, hs, hby⟩ := in_info
  have hn : ∀ j c, ([Value.int .i64 (i : Int)] : List Value)[j]? = some c → W.cell? (a.add j) = some c := by
    intro j c hj
    match j with
    | 0 => simp at hj; rw [← hj]; exact h0
    | j + 1 => simp at hj
  have key := fun ty => run_append_own_at (P := Try.prog) W base 28 ty 3 i0 _ 1 8 Try.underlying28 hi hz hs hby rfl (by omega) u L.length (nvs L) h a 1 1 [Value.int .i64 (i : Int)] rfl hn (by intro c hc; simp at hc; rw [hc]; rfl) (by unfold maxLen; omega) (by omega) hb
  obtain ⟨v', w', hr, ho, hg, _, hat⟩ := key 0
  obtain ⟨p, m, c, rfl⟩ := own_form ho
  refine ⟨p, m, c, w', fun ty => ?_, by simpa [nvs] using ho, hg, hat⟩
  obtain ⟨v2, w2, hr2, _⟩ := key ty
  exact hr
theorem NsS.grown {w w' : World} {u : Value} {L : List Nat} {row : Option Nat} (h : NsS w u L) (hg : w.grownBy w' row) (hu : ∀ q, u.ownBlock = some q → row ≠ some q) : NsS w' u L := by
  obtain ⟨p, cap, rfl, h2, h4⟩ := h
  refine ⟨p, cap, rfl, h2, ?_⟩
  rcases h4 with h4 | ⟨b, o, rfl, hb, hr⟩
  · exact .inl h4
  · exact .inr ⟨b, o, rfl, Nat.lt_of_lt_of_le hb hg.size, fun i n hi => (World.cell?_of_block (w := w) (hg.block b hb (fun e => hu b rfl e.symm))).trans (hr i n hi)⟩
theorem frs_len (dep : Nat → Nat → Bool) (l : List Nat) : (frs dep [] l).length ≤ l.length := by
  rw [frs_all, List.length_map]
  induction l with
  | nil => simp [picks]
  | cons a l ih =>
    simp only [picks, List.length_cons, List.length_map]
    have := List.length_filter_le (fun y => !dep a y.1) (picks dep l)
    omega
theorem frs_mem {dep : Nat → Nat → Bool} {l : List Nat} {i : Nat} (h : i ∈ frs dep [] l) : i ∈ l := by
  rw [frs_all] at h
  obtain ⟨⟨a, r⟩, hm, rfl⟩ := List.mem_map.1 h
  obtain ⟨p, q, rfl, _, _⟩ := mem_picks.1 hm
  simp
/-- One step of the search for the best. -/
def nxt (t : Int) (thr : Nat → Int) (i : Nat) : Option Nat → Option Nat
  | Option.none => some i
  | some c => some (if t < thr c then i else c)
theorem nxt_is (thr : Nat → Int) (l : List Nat) (i : Nat) : mnF thr Option.none (l ++ [i]) = nxt (thr i) thr i (mnF thr Option.none l) := by
  rw [mnF_snoc]; cases mnF thr Option.none l <;> rfl
/-- The best so far, as a number. -/
def bst : Option Nat → Int
  | Option.none => -1
  | some b => (b : Int)

set_option maxRecDepth 100000 in
set_option maxHeartbeats 16000000 in
theorem normal_any (x : List (Int × List (Int × Bool))) (v : Value) (w : World) (hs : EvS w v x) (hl : x.length ≤ 1000) (h8 : ∀ e ∈ x, e.2.length ≤ 1000) :
    Calls Try.prog 14 #[v] w fun e w' => ∃ v', e = .returned v' ∧ NsS w' v' (nf (dpi x) (thi x) (List.range x.length)) ∧ Below w.heap.size w w' := by
  have HS := Lib.hid hs
  obtain ⟨p, cap, rfl, hcap, hcm, h4⟩ := hs
  obtain ⟨A, hA⟩ : ∃ A, x.length = A := ⟨_, rfl⟩
  rw [hA] at HS hcap hl ⊢
  have HA := Lib.hid hA
  have H4 := Lib.hid h4
  have H8 := Lib.hid h8
  clear hA h4 h8
  go_enter Try.func14, Try.ntmps14
  go_wp2
  go_loopw [4, 14] (fun s4 s14 wr => ∃ (j : Nat), s14 = .int .i64 (j : Int) ∧ j ≤ A ∧ wr.ownsRow w.heap.size 3 1 s4 (List.range j).length (nvs (List.range j)) ∧ Below w.heap.size w wr) (fun _ s _ => A - (intOf s).toNat)
  case atStart => exact ⟨0, rfl, by omega, by simpa [nvs] using World.ownsRow_nil _ _ _ _, Below.refl _ _⟩
  case round =>
    obtain ⟨j, rfl, hj, hown, hb⟩ := hrel
    have HOWN := Lib.hid hown
    have HB := Lib.hid hb
    clear hown hb
    by_cases hlt : j < A
    · have hg := heap_alloc_new wr (Obj.cells #[Value.int .i64 (j : Int)] 3)
      have hWa : Below wr.heap.size wr (wr.alloc (Obj.cells #[Value.int .i64 (j : Int)] 3)) := below_alloc wr _
      obtain ⟨p', m', c', w', hrun, ho', hg', _⟩ := app_ns2 (wr.alloc (Obj.cells #[Value.int .i64 (j : Int)] 3)) w.heap.size _ (List.range j) j (own_kept HOWN.out hWa) (by rw [List.length_range]; omega) (by have := HB.out.size; simp; omega) ⟨wr.heap.size, 0, Option.none⟩ (by rw [add_lit, cell_of_row _ _ _ _ _ _ hg]; rfl)
      have HROW' : Hid (w'.ownsRow w.heap.size 3 1 (.slice p' m' c') (List.range (j + 1)).length (nvs (List.range (j + 1)))) := Lib.hid (by rw [List.range_succ]; exact ho')
      have HBW' : Hid (Below w.heap.size w w') := Lib.hid ((HB.out.trans (hWa.mono HB.out.size)).grown hg' (by have := HB.out.size; simp; omega) (fun g hgq => (HOWN.out.lt g hgq).1))
      clear hg hWa ho' hg'
      go_wp2_with (at_builtin; refine wpList_app rfl (.tmp 17) (.tmp 19) 28 rfl _ _ _ w' rfl rfl hrun ?_)
      go_wp2
      go_roundw
      case rel => exact ⟨j + 1, by go_num, by omega, HROW'.out, HBW'.out⟩
      case measure => simp [intOf]; omega
    · obtain rfl : j = A := by omega
      have hns := ns_of_own HOWN.out
      have HNS := Lib.hid hns
      clear hns
      go_wp2
      go_loopw [3, 4] (fun s3 s4 wq => ∃ (L O : List Nat), wq.ownsRow w.heap.size 3 1 s3 O.length (nvs O) ∧ NsS wq s4 L ∧ (∀ q, s4.ownBlock = some q → s3.ownBlock ≠ some q) ∧ L.Nodup ∧ (∀ i ∈ L, i < j) ∧ O.length + L.length = j ∧ O ++ nfN (dpi x) (thi x) L.length L = nf (dpi x) (thi x) (List.range j) ∧ Below w.heap.size w wq) (fun _ s _ => match s with | .slice _ n _ => n | _ => 0)
      case atStart => exact ⟨List.range j, [], by simpa [nvs] using World.ownsRow_nil _ _ _ _, HNS.out, (fun q _ e => by cases e), List.nodup_range, fun i hi => List.mem_range.1 hi, by simp, rfl, HB.out⟩
      case round =>
        clear HOWN HNS HB
        obtain ⟨L, O, hO, hL, hap, hnd, hin, hlen, hnf, hb⟩ := hrel
        have HO := Lib.hid hO
        have HL := Lib.hid hL
        have HAP := Lib.hid hap
        have HND := Lib.hid hnd
        have HIN := Lib.hid hin
        have HNF := Lib.hid hnf
        have HB := Lib.hid hb
        obtain ⟨pl, cl, hle, _⟩ := id hL
        subst hle
        clear hO hL hap hnd hin hnf hb
        obtain ⟨wq, rfl⟩ : ∃ wq, wq = wr := ⟨_, rfl⟩
        by_cases hL0 : L = []
        · subst hL0
          have hfin : O = nf (dpi x) (thi x) (List.range j) := by have := HNF.out; simpa [nfN] using this
          have HFIN := Lib.hid hfin
          clear hfin
          go_wp2
          go_ret
          exact ⟨_, rfl, by rw [← HFIN.out]; exact ns_of_own HO.out, HB.out⟩
        · obtain ⟨N, hN⟩ : ∃ N, L.length = N + 1 := ⟨L.length - 1, by have := List.length_pos_iff.2 hL0; omega⟩
          rw [hN] at HL HAP ⊢
          have hN0 : (0 : Int) < (N : Int) + 1 := by omega
          have hfree := Lib.hid (free_any x L (.slice p j cap) (.slice pl (N + 1) cl) wq (HS.out.kept HB.out) HL.out (by rw [HA.out]; omega) (by omega) H8.out (fun i hi => by rw [HA.out]; exact HIN.out i hi))
          go_wp2_with (go_at_call 28; refine Hid.out ?_)
          refine Lib.hid ?_
          refine hfree.out.mono ?_
          rintro e w2 ⟨v2, rfl, hF, hb2⟩
          obtain ⟨F, hFe⟩ : ∃ F, frs (dpi x) [] L = F := ⟨_, rfl⟩
          rw [hFe] at hF
          have hFl : F.length ≤ N + 1 := by rw [← hFe, ← hN]; exact frs_len _ _
          have hFm : ∀ i ∈ F, i < j := fun i hi => HIN.out i (frs_mem (by rw [hFe]; exact hi))
          have HF := Lib.hid hF
          have HFE := Lib.hid hFe
          have HFM := Lib.hid hFm
          have HB2 := Lib.hid hb2
          have HFN := Lib.hid (ns_of_own hF)
          obtain ⟨pF, cF, hve, _, hF5⟩ := ns_of_own hF
          obtain ⟨M, hM⟩ : ∃ M, F.length = M := ⟨_, rfl⟩
          rw [hM] at hve hFl
          subst hve
          have HM := Lib.hid hM
          have HF5 := Lib.hid hF5
          clear hfree hF hFe hFm hb2 hM hF5
          go_wp2
          go_loopw [6, 29] (fun s6 s29 wk => ∃ (m : Nat) (b : Option Nat), s6 = .int .i64 (bst b) ∧ s29 = .int .i64 (m : Int) ∧ m ≤ M ∧ b = mnF (thi x) Option.none (F.take m) ∧ Below w2.heap.size w2 wk) (fun _ s _ => M - (intOf s).toNat)
          case atStart => exact ⟨0, Option.none, rfl, rfl, by omega, rfl, Below.refl _ _⟩
          case round =>
            obtain ⟨m, b, rfl, rfl, hm, hbe, hbk⟩ := hrel
            have HBE := Lib.hid hbe
            have HBK := Lib.hid hbk
            clear hbe hbk
            by_cases hltm : m < M
            · obtain ⟨i, hi⟩ : ∃ i, F[m]? = some i := ⟨_, List.getElem?_eq_getElem (by rw [HM.out]; exact hltm)⟩
              have hij := HFM.out i (List.mem_of_getElem? hi)
              obtain ⟨f, hf⟩ : ∃ f, x[i]? = some f := ⟨_, List.getElem?_eq_getElem (by rw [HA.out]; exact hij)⟩
              obtain ⟨b0, o0, rfl, hbb, hr⟩ : ∃ b o, p = some ⟨b, o, Option.none⟩ ∧ b < w.heap.size ∧ EvR w b o x := by
                rcases H4.out with ⟨_, e⟩ | h
                · rw [e] at hf; simp at hf
                · exact h
              obtain ⟨b1, o1, rfl, hbb1, hr1⟩ : ∃ b o, pF = some ⟨b, o, Option.none⟩ ∧ b < w2.heap.size ∧ ∀ (i n : Nat), F[i]? = some n → w2.cell? ⟨b, o + i, Option.none⟩ = some (.int .i64 (n : Int)) := by
                rcases HF5.out with ⟨_, e⟩ | h
                · rw [e] at hi; simp at hi
                · exact h
              have kw := (HB.out.trans (HB2.out.mono HB.out.size)).trans (HBK.out.mono (by have := HB.out.size; have := HB2.out.size; omega))
              have c0 : wr.cell? ⟨b1, o1 + m, Option.none⟩ = some (.int .i64 (i : Int)) := (HBK.out.cell (p := ⟨b1, _, Option.none⟩) hbb1).trans (hr1 m i hi)
              have c1 : wr.cell? ⟨b0, o0 + i * 2, Option.none⟩ = some (.int .i64 f.1) := (kw.cell (p := ⟨b0, _, Option.none⟩) hbb).trans (hr i f hf).1
              have hstep : mnF (thi x) Option.none (F.take (m + 1)) = nxt f.1 (thi x) i b := by
                rw [show F.take (m + 1) = F.take m ++ (F[m]?).toList from List.take_add_one, hi]
                show mnF _ _ (F.take m ++ [i]) = _
                rw [nxt_is, ← HBE.out, thi_at hf]
              have HST := Lib.hid hstep
              have HR := Lib.hid hr
              have HKW := Lib.hid kw
              clear hi hf hr hr1 kw hstep
              have hmem : ∀ c, b = some c → c ∈ F := fun c hc => by
                rcases mnF_mem (thi x) (F.take m) Option.none c (by rw [← HBE.out]; exact hc) with h | h
                · exact List.mem_of_mem_take h
                · cases h
              cases b with
              | none =>
                clear hmem
                simp only [bst]
                go_wp2_with fail
                go_quiet (fail)
                have HZ : Hid (Below w2.heap.size w2 (wr.drewN nq)) := Lib.hid (HBK.out.trans ⟨rfl, rfl, rfl, Nat.le_refl _, fun _ _ => rfl⟩)
                clear c0 c1
                generalize wr.drewN nq = w9 at HZ ⊢
                go_wp2
                go_roundw
                case rel => exact ⟨m + 1, some i, rfl, by go_num, by omega, by rw [HST.out]; rfl, HZ.out⟩
                case measure => simp [intOf]; omega
              | some c =>
                have hcF := hmem c rfl
                have hcj := HFM.out c hcF
                obtain ⟨e, he⟩ : ∃ e, x[c]? = some e := ⟨_, List.getElem?_eq_getElem (by rw [HA.out]; exact hcj)⟩
                have c2 : wr.cell? ⟨b0, o0 + c * 2, Option.none⟩ = some (.int .i64 e.1) := (HKW.out.cell (p := ⟨b0, _, Option.none⟩) hbb).trans (HR.out c e he).1
                have hthe := thi_at he
                have hn1 : ¬ (c : Int) < 0 := by omega
                have hij' : (i : Int) < (j : Int) := by omega
                have hcj' : (c : Int) < (j : Int) := by omega
                have HTHE := Lib.hid hthe
                clear hmem hcF he hthe
                simp only [bst]
                by_cases hcmp : f.1 < e.1
                · go_wp2_with fail
                  go_quiet (fail)
                  have HZ : Hid (Below w2.heap.size w2 (wr.drewN nq)) := Lib.hid (HBK.out.trans ⟨rfl, rfl, rfl, Nat.le_refl _, fun _ _ => rfl⟩)
                  clear c0 c1 c2
                  generalize wr.drewN nq = w9 at HZ ⊢
                  go_wp2
                  go_roundw
                  case rel => exact ⟨m + 1, some i, rfl, by go_num, by omega, by rw [HST.out]; show some i = some (if f.1 < thi x c then i else c); rw [HTHE.out, if_pos hcmp], HZ.out⟩
                  case measure => simp [intOf]; omega
                · go_wp2_with fail
                  go_quiet (fail)
                  have HZ : Hid (Below w2.heap.size w2 (wr.drewN nq)) := Lib.hid (HBK.out.trans ⟨rfl, rfl, rfl, Nat.le_refl _, fun _ _ => rfl⟩)
                  clear c0 c1 c2
                  generalize wr.drewN nq = w9 at HZ ⊢
                  go_wp2
                  go_roundw
                  case rel => exact ⟨m + 1, some c, rfl, by go_num, by omega, by rw [HST.out]; show some c = some (if f.1 < thi x c then i else c); rw [HTHE.out, if_neg (by omega)], HZ.out⟩
                  case measure => simp [intOf]; omega
            · have hbF : b = mnF (thi x) Option.none F := by have := HBE.out; rwa [List.take_of_length_le (by rw [HM.out]; omega)] at this
              obtain ⟨c, rfl⟩ : ∃ c, b = some c := by
                cases b with
                | some c => exact ⟨c, rfl⟩
                | none =>
                  exfalso
                  have h1 := mnF_none hbF.symm
                  rw [← HFE.out, frs_all] at h1
                  exact hL0 (picks_nil (List.map_eq_nil_iff.1 h1))
              have hst := nfN_step (thr := thi x) (n := N) HND.out (b := c) (by rw [HFE.out]; exact hbF.symm)
              obtain ⟨hs1, hs2, hs3, hs4⟩ := hst
              have kw := HB2.out.trans (HBK.out.mono HB2.out.size)
              have kww := HB.out.trans (kw.mono HB.out.size)
              have HO2 := Lib.hid (own_kept HO.out kw)
              have HL2 := HL.out.kept kw
              have hg := heap_alloc_new wr (Obj.cells #[Value.int .i64 (c : Int)] 3)
              have hWa : Below wr.heap.size wr (wr.alloc (Obj.cells #[Value.int .i64 (c : Int)] 3)) := below_alloc wr _
              obtain ⟨p', m', c', w', hrun, ho', hg', hat⟩ := app_ns2 (wr.alloc (Obj.cells #[Value.int .i64 (c : Int)] 3)) w.heap.size _ O c (own_kept HO2.out hWa) (by omega) (by have := kww.size; simp; omega) ⟨wr.heap.size, 0, Option.none⟩ (by rw [add_lit, cell_of_row _ _ _ _ _ _ hg]; rfl)
              have HROW' := Lib.hid ho'
              have HBW' : Hid (Below w.heap.size w w') := Lib.hid ((kww.trans (hWa.mono kww.size)).grown hg' (by have := kww.size; simp; omega) (fun g hgq => (HO2.out.lt g hgq).1))
              have hL' : NsS w' (.slice pl (N + 1) cl) L := (HL2.kept hWa).grown hg' HAP.out
              have HL' := Lib.hid hL'
              obtain ⟨_, _, hle2, _, hL5⟩ := hL'
              simp only [Value.slice.injEq] at hle2
              obtain ⟨rfl, hx1, rfl⟩ := hle2
              clear hx1
              have HL5 := Lib.hid hL5
              have HNX : Hid (O ++ [c] ++ nfN (dpi x) (thi x) N (L.filter fun i => decide (i ≠ c)) = nf (dpi x) (thi x) (List.range j)) := Lib.hid (by
                rw [← HNF.out, hN, hs1]; simp)
              have HS3 : Hid ((L.filter fun i => decide (i ≠ c)).length = N) := Lib.hid (by omega)
              have HS4 := Lib.hid hs4
              have HPL : Hid (∀ q, (Value.slice p' m' c').ownBlock = some q → q < w'.heap.size) := Lib.hid fun q hq => (ho'.lt q hq).2
              clear hs1 hs2 hs3 hs4 kw kww HL2 hg hWa ho' hg' hat hL5 hbF HBE
              simp only [bst]
              go_wp2_with (at_builtin; refine wpList_app rfl (.tmp 50) (.tmp 52) 28 rfl _ _ _ w' rfl rfl hrun ?_)
              clear hrun
              go_wp2
              go_loopw [9, 56] (fun s9 s56 wk => ∃ (m : Nat), s56 = .int .i64 (m : Int) ∧ m ≤ N + 1 ∧ wk.ownsRow w'.heap.size 3 1 s9 ((L.take m).filter fun i => decide (i ≠ c)).length (nvs ((L.take m).filter fun i => decide (i ≠ c))) ∧ Below w'.heap.size w' wk) (fun _ s _ => N + 1 - (intOf s).toNat)
              case atStart => exact ⟨0, rfl, by omega, by simpa [nvs] using World.ownsRow_nil _ _ _ _, Below.refl _ _⟩
              case round =>
                obtain ⟨m, rfl, hm, hown, hbk⟩ := hrel
                have HOWN := Lib.hid hown
                have HBK2 := Lib.hid hbk
                clear hown hbk
                by_cases hltm : m < N + 1
                · obtain ⟨i, hi⟩ : ∃ i, L[m]? = some i := ⟨_, List.getElem?_eq_getElem (by rw [hN]; exact hltm)⟩
                  obtain ⟨b1, o1, rfl, hbb1, hr1⟩ : ∃ b o, pl = some ⟨b, o, Option.none⟩ ∧ b < w'.heap.size ∧ ∀ (i n : Nat), L[i]? = some n → w'.cell? ⟨b, o + i, Option.none⟩ = some (.int .i64 (n : Int)) := by
                    rcases HL5.out with ⟨_, e⟩ | h
                    · rw [e] at hi; simp at hi
                    · exact h
                  have c0 : wr.cell? ⟨b1, o1 + m, Option.none⟩ = some (.int .i64 (i : Int)) := (HBK2.out.cell (p := ⟨b1, _, Option.none⟩) hbb1).trans (hr1 m i hi)
                  have hmN : (m : Int) < (N : Int) + 1 := by omega
                  have hfs : (L.take (m + 1)).filter (fun i => decide (i ≠ c)) = (L.take m).filter (fun i => decide (i ≠ c)) ++ (if i = c then [] else [i]) := by
                    rw [show L.take (m + 1) = L.take m ++ (L[m]?).toList from List.take_add_one, hi, List.filter_append]
                    congr 1
                    by_cases hic : i = c <;> simp [hic]
                  clear hi hr1
                  by_cases hic : i = c
                  · rw [if_pos hic, List.append_nil] at hfs
                    have HFS := Lib.hid hfs
                    subst hic
                    clear hfs
                    go_wp2
                    go_roundw
                    case rel => exact ⟨m + 1, by go_num, by omega, by rw [HFS.out]; exact HOWN.out, HBK2.out⟩
                    case measure => simp [intOf]; omega
                  · rw [if_neg hic] at hfs
                    have HFS := Lib.hid hfs
                    have hne : ¬ (i : Int) = (c : Int) := by omega
                    have hne2 : ((i : Int) == (c : Int)) = false := by rw [beq_eq_false_iff_ne]; omega
                    have hne3 : ((i : Int) != (c : Int)) = true := by rw [bne_iff_ne]; omega
                    have hg := heap_alloc_new wr (Obj.cells #[Value.int .i64 (i : Int)] 3)
                    have hWa : Below wr.heap.size wr (wr.alloc (Obj.cells #[Value.int .i64 (i : Int)] 3)) := below_alloc wr _
                    have hfl : ((L.take m).filter fun i => decide (i ≠ c)).length ≤ 1000 := by
                      have := List.length_filter_le (fun i => decide (i ≠ c)) (L.take m)
                      rw [List.length_take] at this
                      omega
                    obtain ⟨p2, m2, c2, w3, hrun, ho3, hg3, _⟩ := app_ns2 (wr.alloc (Obj.cells #[Value.int .i64 (i : Int)] 3)) w'.heap.size _ _ i (own_kept HOWN.out hWa) hfl (by have := HBK2.out.size; simp; omega) ⟨wr.heap.size, 0, Option.none⟩ (by rw [add_lit, cell_of_row _ _ _ _ _ _ hg]; rfl)
                    have HR3 := Lib.hid ho3
                    have HB3 : Hid (Below w'.heap.size w' w3) := Lib.hid ((HBK2.out.trans (hWa.mono HBK2.out.size)).grown hg3 (by have := HBK2.out.size; simp; omega) (fun g hgq => (HOWN.out.lt g hgq).1))
                    clear hfs hg hWa hfl ho3 hg3
                    go_wp2_with (at_builtin; refine wpList_app rfl (.tmp 63) (.tmp 65) 28 rfl _ _ _ w3 rfl rfl hrun ?_)
                    go_wp2
                    go_roundw
                    case rel => exact ⟨m + 1, by go_num, by omega, by rw [HFS.out]; exact HR3.out, HB3.out⟩
                    case measure => simp [intOf]; omega
                · have hmN : m = N + 1 := by omega
                  have hft : L.take m = L := List.take_of_length_le (by omega)
                  have ho := HOWN.out
                  rw [hft] at ho
                  have hns := ns_of_own ho
                  have HNS2 := Lib.hid hns
                  have HOW2 := Lib.hid ho
                  obtain ⟨p9, c9, h9, _⟩ := hns
                  rw [HS3.out] at h9
                  subst h9
                  have HFIN : Hid (∃ (L O : List Nat), wr.ownsRow w.heap.size 3 1 (.slice p' m' c') O.length (nvs O) ∧ NsS wr (.slice p9 N c9) L ∧ (∀ q, (Value.slice p9 N c9).ownBlock = some q → (Value.slice p' m' c').ownBlock ≠ some q) ∧ L.Nodup ∧ (∀ i ∈ L, i < j) ∧ O.length + L.length = j ∧ O ++ nfN (dpi x) (thi x) L.length L = nf (dpi x) (thi x) (List.range j) ∧ Below w.heap.size w wr) := Lib.hid (by
                    refine ⟨L.filter fun i => decide (i ≠ c), O ++ [c], own_kept HROW'.out HBK2.out, HNS2.out, fun q hq e => ?_, HS4.out, fun i hi => HIN.out i (List.mem_filter.1 hi).1, ?_, ?_, HBW'.out.trans (HBK2.out.mono HBW'.out.size)⟩
                    · have h1 := (HOW2.out.lt q hq).1
                      have h2 := HPL.out q e
                      omega
                    · have := HS3.out
                      rw [List.length_append, List.length_singleton, this]
                      omega
                    · rw [HS3.out]; exact HNX.out)
                  clear hft ho
                  go_wp2
                  go_roundw
                  case rel => exact HFIN.out
                  case measure => simp
end Go.Proofs.Ytmhaelfmojigoaa
