/- The law's free: of the places that are left those that depend on none ahead of them that is left. -/
import Derived.Test.YtmhaelfmojigoaaAe
import Derived.Test.YtmhaelfmojigoaaNb
set_option linter.unusedSimpArgs false
set_option linter.unusedVariables false
namespace Go.Proofs.Ytmhaelfmojigoaa
open Go.RowKit

/-- Do the events at two places depend on one another? -/
def dpi (x : List (Int × List (Int × Bool))) (i j : Nat) : Bool := edep x[i]! x[j]!
theorem dpi_at {x : List (Int × List (Int × Bool))} {i j : Nat} {e f : Int × List (Int × Bool)} (he : x[i]? = some e) (hf : x[j]? = some f) : dpi x i j = edep e f := by
  obtain ⟨h1, h2⟩ := List.getElem?_eq_some_iff.1 he
  obtain ⟨h3, h4⟩ := List.getElem?_eq_some_iff.1 hf
  unfold dpi
  rw [getElem!_pos x i h1, getElem!_pos x j h3, h2, h4]

set_option maxRecDepth 100000 in
set_option maxHeartbeats 16000000 in
theorem free_any (x : List (Int × List (Int × Bool))) (left : List Nat) (v u : Value) (w : World) (hs : EvS w v x) (hu : NsS w u left) (hl : x.length ≤ 1000) (hll : left.length ≤ 1000) (h8 : ∀ e ∈ x, e.2.length ≤ 1000) (hlt : ∀ i ∈ left, i < x.length) :
    Calls Try.prog 28 #[v, u] w fun e w' => ∃ v', e = .returned v' ∧ w'.ownsRow w.heap.size 3 1 v' (frs (dpi x) [] left).length (nvs (frs (dpi x) [] left)) ∧ Below w.heap.size w w' := by
  obtain ⟨p, cap, rfl, hcap, hcm, h4⟩ := hs
  obtain ⟨pu, cu, rfl, hcu, h5⟩ := hu
  obtain ⟨A, hA⟩ : ∃ A, x.length = A := ⟨_, rfl⟩
  obtain ⟨N, hN⟩ : ∃ N, left.length = N := ⟨_, rfl⟩
  rw [hA] at hcap hl hlt ⊢
  rw [hN] at hcu hll ⊢
  have HA := Lib.hid hA
  have HN := Lib.hid hN
  have H4 := Lib.hid h4
  have H5 := Lib.hid h5
  have H8 := Lib.hid h8
  have HLT := Lib.hid hlt
  clear hA hN h4 h5 h8 hlt
  go_enter Try.func28, Try.ntmps28
  go_wp2
  go_loopw [5, 13] (fun s5 s13 wr => ∃ (n : Nat), s13 = .int .i64 (n : Int) ∧ n ≤ N ∧ wr.ownsRow w.heap.size 3 1 s5 (frs (dpi x) [] (left.take n)).length (nvs (frs (dpi x) [] (left.take n))) ∧ Below w.heap.size w wr) (fun _ s _ => N - (intOf s).toNat)
  case atStart => exact ⟨0, rfl, by omega, by simpa [frs, nvs] using World.ownsRow_nil _ _ _ _, Below.refl _ _⟩
  case round =>
    obtain ⟨n, rfl, hn, hown, hb⟩ := hrel
    have HOWN := Lib.hid hown
    have HB := Lib.hid hb
    clear hown hb
    by_cases hltn : n < N
    · obtain ⟨i, hi⟩ : ∃ i, left[n]? = some i := ⟨_, List.getElem?_eq_getElem (by rw [HN.out]; exact hltn)⟩
      have hiA := HLT.out i (List.mem_of_getElem? hi)
      obtain ⟨f, hf⟩ : ∃ f, x[i]? = some f := ⟨_, List.getElem?_eq_getElem (by rw [HA.out]; exact hiA)⟩
      obtain ⟨b, o, rfl, hbb, hr⟩ : ∃ b o, p = some ⟨b, o, Option.none⟩ ∧ b < w.heap.size ∧ EvR w b o x := by
        rcases H4.out with ⟨_, e⟩ | h
        · rw [e] at hf; simp at hf
        · exact h
      obtain ⟨b', o', rfl, hbb', hr'⟩ : ∃ b o, pu = some ⟨b, o, Option.none⟩ ∧ b < w.heap.size ∧ ∀ (i n : Nat), left[i]? = some n → w.cell? ⟨b, o + i, Option.none⟩ = some (.int .i64 (n : Int)) := by
        rcases H5.out with ⟨_, e⟩ | h
        · rw [e] at hi; simp at hi
        · exact h
      obtain ⟨qf, mf, cf, hfc⟩ := hr.at hbb hf
      have c0 : wr.cell? ⟨b', o' + n, Option.none⟩ = some (.int .i64 (i : Int)) := (HB.out.cell (p := ⟨b', _, Option.none⟩) hbb').trans (hr' n i hi)
      have HI := Lib.hid hi
      have HF := Lib.hid hf
      have HR := Lib.hid hr
      have HR' := Lib.hid hr'
      have HFC := Lib.hid hfc
      have hnc : (n : Int) ≤ (cu : Int) := by omega
      have hnl : (n : Int) ≤ (N : Int) := by omega
      clear hi hf hr hr' hfc
      obtain ⟨wj, rfl⟩ : ∃ wj, wj = wr := ⟨_, rfl⟩
      go_wp2
      go_loopw [8, 22] (fun s8 s22 wk => ∃ (q : Nat) (ok : Bool), s8 = .bool ok ∧ s22 = .int .i64 (q : Int) ∧ q ≤ n ∧ ok = (left.take q).all (fun k => !dpi x k i) ∧ Below wj.heap.size wj wk) (fun _ s _ => n - (intOf s).toNat)
      case atStart => exact ⟨0, true, rfl, rfl, by omega, by simp, Below.refl _ _⟩
      case round =>
        clear c0
        obtain ⟨q, ok, rfl, rfl, hq, hok, hbk⟩ := hrel
        have HK := Lib.hid hok
        have HBK := Lib.hid hbk
        clear hok hbk
        by_cases hltq : q < n
        · obtain ⟨k, hk⟩ : ∃ k, left[q]? = some k := ⟨_, List.getElem?_eq_getElem (by rw [HN.out]; omega)⟩
          have hkA := HLT.out k (List.mem_of_getElem? hk)
          obtain ⟨g, hg⟩ : ∃ g, x[k]? = some g := ⟨_, List.getElem?_eq_getElem (by rw [HA.out]; exact hkA)⟩
          obtain ⟨qg, mg, cg, hgc⟩ := HR.out.at hbb hg
          have kw0 := HB.out.trans (HBK.out.mono HB.out.size)
          have c1 : wr.cell? ⟨b', o' + q, Option.none⟩ = some (.int .i64 (k : Int)) := (kw0.cell (p := ⟨b', _, Option.none⟩) hbb').trans (HR'.out q k hk)
          have hstep : (left.take (q + 1)).all (fun k => !dpi x k i) = (ok && !edep g f) := by
            rw [show left.take (q + 1) = left.take q ++ (left[q]?).toList from List.take_add_one, hk, List.all_append, ← HK.out]
            simp [dpi_at hg HF.out]
          obtain ⟨wz, rfl⟩ : ∃ wz, wz = wr := ⟨_, rfl⟩
          have keep : ∀ W, Below wz.heap.size wz W → (Below wz.heap.size wz W ∧ W.cell? ⟨b, o + k * 2, Option.none⟩ = some (.int .i64 g.1) ∧ W.cell? ⟨b, o + k * 2 + 1, Option.none⟩ = some (.slice qg mg cg) ∧ W.cell? ⟨b, o + i * 2, Option.none⟩ = some (.int .i64 f.1) ∧ W.cell? ⟨b, o + i * 2 + 1, Option.none⟩ = some (.slice qf mf cf)) := fun W kk => by
            have kw := kw0.trans (kk.mono kw0.size)
            have h1 := hgc W kw
            have h2 := HFC.out W kw
            exact ⟨kk, h1.1, h1.2.1, h2.1, h2.2.1⟩
          have K2 : Hid (∀ W, (Below wz.heap.size wz W ∧ W.cell? ⟨b, o + k * 2, Option.none⟩ = some (.int .i64 g.1) ∧ W.cell? ⟨b, o + k * 2 + 1, Option.none⟩ = some (.slice qg mg cg) ∧ W.cell? ⟨b, o + i * 2, Option.none⟩ = some (.int .i64 f.1) ∧ W.cell? ⟨b, o + i * 2 + 1, Option.none⟩ = some (.slice qf mf cf)) → Calls Try.prog 19 #[.agg #[.int .i64 g.1, .slice qg mg cg], .agg #[.int .i64 f.1, .slice qf mf cf]] W fun r w' => r = .returned (.bool (edep g f)) ∧ (Below wz.heap.size wz w' ∧ w'.cell? ⟨b, o + k * 2, Option.none⟩ = some (.int .i64 g.1) ∧ w'.cell? ⟨b, o + k * 2 + 1, Option.none⟩ = some (.slice qg mg cg) ∧ w'.cell? ⟨b, o + i * 2, Option.none⟩ = some (.int .i64 f.1) ∧ w'.cell? ⟨b, o + i * 2 + 1, Option.none⟩ = some (.slice qf mf cf))) := Lib.hid fun W kk => by
            have kw := kw0.trans (kk.1.mono kw0.size)
            refine (depend_at g f _ _ W (hgc W kw).2.2 (HFC.out W kw).2.2 (H8.out g (List.mem_of_getElem? hg)) (H8.out f (List.mem_of_getElem? HF.out))).mono ?_
            rintro r w' ⟨rfl, hb⟩
            exact ⟨rfl, keep w' (kk.1.trans (hb.mono kk.1.size))⟩
          have hkA' : (k : Int) < (A : Int) := by omega
          have hiA' : (i : Int) < (A : Int) := by omega
          have hs0 := keep wz.drew ⟨rfl, rfl, rfl, Nat.le_refl _, fun _ _ => rfl⟩
          have HST := Lib.hid hstep
          have KW0 := Lib.hid kw0
          clear keep hstep hgc hk hg kw0 HK
          generalize edep g f = d at *
          cases ok with
          | false =>
            go_wp2_with fail
            go_quiet (fail)
            have HZ : Hid (Below wj.heap.size wj (wz.drewN nq)) := Lib.hid (HBK.out.trans ⟨rfl, rfl, rfl, Nat.le_refl _, fun _ _ => rfl⟩)
            clear hs0 c1
            generalize wz.drewN nq = w9 at HZ ⊢
            go_wp2
            go_roundw
            case rel => exact ⟨q + 1, false, rfl, by go_num, by omega, by rw [HST.out]; rfl, HZ.out⟩
            case measure => simp [intOf]; omega
          | true =>
            go_wp2_with fail
            go_region_held3 (fun w' => (Below wz.heap.size wz w' ∧ w'.cell? ⟨b, o + k * 2, Option.none⟩ = some (.int .i64 g.1) ∧ w'.cell? ⟨b, o + k * 2 + 1, Option.none⟩ = some (.slice qg mg cg) ∧ w'.cell? ⟨b, o + i * 2, Option.none⟩ = some (.int .i64 f.1) ∧ w'.cell? ⟨b, o + i * 2 + 1, Option.none⟩ = some (.slice qf mf cf)))
              (first | exact hs0 | assumption)
              (first
                | (go_at_call 19; refine (K2.out _ (by assumption)).mono ?_; rintro r w' ⟨rfl, hsA⟩))
            have HZ : Hid (Below wj.heap.size wj w') := Lib.hid (HBK.out.trans (hsA.1.mono HBK.out.size))
            clear hsA hs0 c1
            rename_i hH
            clear hH
            go_wp2
            go_roundw
            case rel => exact ⟨q + 1, _, rfl, by go_num, by omega, by rw [HST.out]; simp, HZ.out⟩
            case measure => simp [intOf]; omega
        · obtain rfl : q = n := by omega
          have hfr : frs (dpi x) [] (left.take (q + 1)) = frs (dpi x) [] (left.take q) ++ (if ok then [i] else []) := by
            rw [show left.take (q + 1) = left.take q ++ (left[q]?).toList from List.take_add_one, HI.out, frs_app, HK.out]
            simp [frs]
          have HO2 := Lib.hid (own_kept HOWN.out HBK.out)
          have HW2 := Lib.hid (HB.out.trans (HBK.out.mono HB.out.size))
          have hfl : (frs (dpi x) [] (left.take q)).length ≤ 1000 := by
            rw [frs_all, List.length_map]
            have : ∀ l : List Nat, (picks (dpi x) l).length ≤ l.length := by
              intro l
              induction l with
              | nil => simp [picks]
              | cons a l ih =>
                simp only [picks, List.length_cons, List.length_map]
                have := List.length_filter_le (fun y => !dpi x a y.1) (picks (dpi x) l)
                omega
            have h1 := this (left.take q)
            rw [List.length_take] at h1
            omega
          cases ok with
          | false =>
            simp only [Bool.false_eq_true, if_false, List.append_nil] at hfr
            have HFR := Lib.hid hfr
            clear hfr hfl HK
            go_wp2
            go_roundw
            case rel => exact ⟨q + 1, by go_num, by omega, by rw [HFR.out]; exact HO2.out, HW2.out⟩
            case measure => simp [intOf]; omega
          | true =>
            simp only [if_true] at hfr
            have HFR := Lib.hid hfr
            have hg := heap_alloc_new wr (Obj.cells #[Value.int .i64 (i : Int)] 3)
            have hWa : Below wr.heap.size wr (wr.alloc (Obj.cells #[Value.int .i64 (i : Int)] 3)) := below_alloc wr _
            obtain ⟨p', m', c', w', hrun, ho', hg'⟩ := app_ns (wr.alloc (Obj.cells #[Value.int .i64 (i : Int)] 3)) w.heap.size _ (frs (dpi x) [] (left.take q)) i (own_kept HO2.out hWa) hfl (by have := HW2.out.size; simp; omega) ⟨wr.heap.size, 0, Option.none⟩ (by rw [add_lit, cell_of_row _ _ _ _ _ _ hg]; rfl)
            have HROW' : Hid (w'.ownsRow w.heap.size 3 1 (.slice p' m' c') (frs (dpi x) [] (left.take (q + 1))).length (nvs (frs (dpi x) [] (left.take (q + 1))))) := Lib.hid (by rw [HFR.out]; exact ho')
            have HBW' : Hid (Below w.heap.size w w') := Lib.hid ((HW2.out.trans (hWa.mono HW2.out.size)).grown hg' (by have := HW2.out.size; simp; omega) (fun g hgq => (HO2.out.lt g hgq).1))
            clear hfr hfl HK hg hWa ho' hg'
            go_wp2_with (at_builtin; refine wpList_app rfl (.tmp 41) (.tmp 43) 28 rfl _ _ _ w' rfl rfl hrun ?_)
            go_wp2
            go_roundw
            case rel => exact ⟨q + 1, by go_num, by omega, HROW'.out, HBW'.out⟩
            case measure => simp [intOf]; omega
    · have hnN : n = N := by omega
      have hfin : left.take n = left := List.take_of_length_le (by rw [HN.out]; omega)
      have HFIN := Lib.hid hfin
      clear hfin
      go_wp2
      go_ret
      have h := HOWN.out
      rw [HFIN.out] at h
      exact ⟨_, rfl, h, HB.out⟩
end Go.Proofs.Ytmhaelfmojigoaa
