/- braid.Swap: an event and the next one exchanged. -/
import Derived.Test.YtmhaelfmojigoaaZo
import Derived.Test.YtmhaelfmojigoaaZv
import Derived.Deep.RegionHeld3
import Derived.BigRegion
set_option linter.unusedSimpArgs false
set_option linter.unusedVariables false
namespace Go.Proofs.Ytmhaelfmojigoaa
open Go.RowKit

set_option maxRecDepth 100000 in
set_option maxHeartbeats 8000000 in
theorem xswap_out (x : Evl) (i : Nat) (v : Value) (w : World) (hs : EvS w v x) (hk : Evk x) (hi : x.length ≤ i + 1) (hi2 : i ≤ 1000) :
    Calls Try.prog 18 #[v, .int .i64 (i : Int)] w fun e w' => e = .returned (.tuple #[.slice Option.none 0 0, .bool false]) ∧ Below w.heap.size w w' := by
  obtain ⟨p, cap, rfl, hcap, hcm, h4⟩ := hs
  have hA60 : x.length ≤ 60 := hk.1
  obtain ⟨A, hA⟩ : ∃ A, x.length = A := ⟨_, rfl⟩
  rw [hA] at hcap hA60 hi ⊢
  have h0 : ¬ (i : Int) < 0 := by omega
  have hw : IntKind.i64.wrap ((A : Int) - 1) = (A : Int) - 1 := by rw [IntKind.wrap_i64]; omega
  have h1 : (A : Int) - 1 ≤ (i : Int) := by omega
  have hd1 : decide ((i : Int) < 0) = false := decide_eq_false h0
  have hd2 : decide ((A : Int) - 1 ≤ (i : Int)) = true := decide_eq_true h1
  clear h4 hA hk
  go_enter Try.func18, Try.ntmps18
  go_wp2_with fail
  go_quiet (fail)
  have HZ : Hid (Below w.heap.size w (w.drewN nq)) := Lib.hid ⟨rfl, rfl, rfl, Nat.le_refl _, fun _ _ => rfl⟩
  generalize w.drewN nq = w9 at HZ ⊢
  go_wp2
  exact bodyPost_ret (v := .tuple #[.slice Option.none 0 0, .bool false]) (by simp [results, Try.results18, go_sem]) rfl ⟨rfl, HZ.out⟩
set_option maxRecDepth 100000 in
set_option maxHeartbeats 16000000 in
theorem xswap_in (x : Evl) (i : Nat) (e f : Int × List (Int × Bool)) (v : Value) (w : World) (hs : EvS w v x) (hk : Evk x) (he : x[i]? = some e) (hf : x[i + 1]? = some f) :
    Calls Try.prog 18 #[v, .int .i64 (i : Int)] w fun r w' => ∃ v', r = .returned (.tuple #[v', .bool (!edep e f)]) ∧ EvS w' v' (if edep e f then [] else xch x i) ∧ Below w.heap.size w w' := by
  obtain ⟨p, cap, rfl, hcap, hcm, h4⟩ := hs
  have hA60 : x.length ≤ 60 := hk.1
  have hi := (List.getElem?_eq_some_iff.1 hf).1
  obtain ⟨A, hA⟩ : ∃ A, x.length = A := ⟨_, rfl⟩
  rw [hA] at hcap hA60 hi ⊢
  obtain ⟨b0, o0, rfl, hbb, hr⟩ : ∃ b o, p = some ⟨b, o, Option.none⟩ ∧ b < w.heap.size ∧ EvR w b o x := by
    rcases h4 with ⟨_, h⟩ | h
    · rw [h] at he; simp at he
    · exact h
  obtain ⟨qf, mf, cf, hfc⟩ := hr.at hbb he
  obtain ⟨qg, mg, cg, hgc⟩ := hr.at hbb hf
  have hle := hk.mk8 e (List.mem_of_getElem? he)
  have hlf := hk.mk8 f (List.mem_of_getElem? hf)
  have HE := Lib.hid he
  have HF := Lib.hid hf
  have HA := Lib.hid hA
  have HK := Lib.hid hk
  have HR := Lib.hid hr
  have HFC := Lib.hid hfc
  have HGC := Lib.hid hgc
  have h0 : ¬ (i : Int) < 0 := by omega
  have hw : IntKind.i64.wrap ((A : Int) - 1) = (A : Int) - 1 := by rw [IntKind.wrap_i64]; omega
  have hw2 : IntKind.i64.wrap ((i : Int) + 1) = (i : Int) + 1 := by rw [IntKind.wrap_i64]; omega
  have h1 : ¬ (A : Int) - 1 ≤ (i : Int) := by omega
  have hd1 : decide ((i : Int) < 0) = false := decide_eq_false h0
  have hd2 : decide ((A : Int) - 1 ≤ (i : Int)) = false := decide_eq_false h1
  have h2 : (i : Int) < (A : Int) := by omega
  have h3 : (i : Int) + 1 < (A : Int) := by omega
  have h5 : (0 : Int) ≤ (i : Int) + 1 := by omega
  have hwm : IntKind.i64.wrap ((A : Int) - 1) = (A : Int) - 1 := by rw [IntKind.wrap_i64]; omega
  have keep : ∀ W, Below w.heap.size w W → (Below w.heap.size w W ∧ W.cell? ⟨b0, o0 + i * 2, Option.none⟩ = some (.int .i64 e.1) ∧ W.cell? ⟨b0, o0 + i * 2 + 1, Option.none⟩ = some (.slice qf mf cf) ∧ W.cell? ⟨b0, o0 + (i + 1) * 2, Option.none⟩ = some (.int .i64 f.1) ∧ W.cell? ⟨b0, o0 + (i + 1) * 2 + 1, Option.none⟩ = some (.slice qg mg cg)) := fun W kk => by
    have g1 := HFC.out W kk
    have g2 := HGC.out W kk
    exact ⟨kk, g1.1, g1.2.1, g2.1, g2.2.1⟩
  have K2 : Hid (∀ W, (Below w.heap.size w W ∧ W.cell? ⟨b0, o0 + i * 2, Option.none⟩ = some (.int .i64 e.1) ∧ W.cell? ⟨b0, o0 + i * 2 + 1, Option.none⟩ = some (.slice qf mf cf) ∧ W.cell? ⟨b0, o0 + (i + 1) * 2, Option.none⟩ = some (.int .i64 f.1) ∧ W.cell? ⟨b0, o0 + (i + 1) * 2 + 1, Option.none⟩ = some (.slice qg mg cg)) → Calls Try.prog 19 #[.agg #[.int .i64 e.1, .slice qf mf cf], .agg #[.int .i64 f.1, .slice qg mg cg]] W fun r w' => r = .returned (.bool (edep e f)) ∧ (Below w.heap.size w w' ∧ w'.cell? ⟨b0, o0 + i * 2, Option.none⟩ = some (.int .i64 e.1) ∧ w'.cell? ⟨b0, o0 + i * 2 + 1, Option.none⟩ = some (.slice qf mf cf) ∧ w'.cell? ⟨b0, o0 + (i + 1) * 2, Option.none⟩ = some (.int .i64 f.1) ∧ w'.cell? ⟨b0, o0 + (i + 1) * 2 + 1, Option.none⟩ = some (.slice qg mg cg))) := Lib.hid fun W kk => by
    refine (depend_at e f _ _ W (HFC.out W kk.1).2.2 (HGC.out W kk.1).2.2 hle hlf).mono ?_
    rintro r w' ⟨rfl, hb⟩
    exact ⟨rfl, keep w' (kk.1.trans (hb.mono kk.1.size))⟩
  have hs0 := keep w.drew ⟨rfl, rfl, rfl, Nat.le_refl _, fun _ _ => rfl⟩
  obtain ⟨d, hd⟩ : ∃ d, edep e f = d := ⟨_, rfl⟩
  rw [hd] at K2 ⊢
  obtain ⟨i0, hz, hz0, hz1, hz2⟩ := ev_info
  clear keep hle hlf hd h4 he hf hr hA hk hfc hgc
  go_enter Try.func18, Try.ntmps18
  go_wp2_with fail
  go_region_held3 (fun w' => (Below w.heap.size w w' ∧ w'.cell? ⟨b0, o0 + i * 2, Option.none⟩ = some (.int .i64 e.1) ∧ w'.cell? ⟨b0, o0 + i * 2 + 1, Option.none⟩ = some (.slice qf mf cf) ∧ w'.cell? ⟨b0, o0 + (i + 1) * 2, Option.none⟩ = some (.int .i64 f.1) ∧ w'.cell? ⟨b0, o0 + (i + 1) * 2 + 1, Option.none⟩ = some (.slice qg mg cg)))
    (first | exact hs0 | assumption)
    (first
      | (go_at_call 19; refine (K2.out _ (by assumption)).mono ?_; rintro r w' ⟨rfl, hsA⟩))
  have HB := Lib.hid hsA.1
  clear hsA hs0 K2
  cases d with
  | true =>
    clear hz hz0 hz1 hz2
    go_wp2
    refine bodyPost_ret (v := .tuple #[.slice Option.none 0 0, .bool false]) (by simp [results, Try.results18, go_sem]) rfl ?_
    exact ⟨_, rfl, ⟨Option.none, 0, rfl, Nat.le_refl _, by unfold maxLen; omega, .inl ⟨rfl, rfl⟩⟩, HB.out⟩
  | false =>
    have hbs := HB.out.size
    go_wp2_with (at_make; refine wpList_make_own _ rfl _ _ 25 rfl w.heap.size 39 i0 _ 2 Try.underlying25 hz hz0 hz1 .i64 .i64 (A : Int) A rfl rfl rfl (by rw [hz2]; omega) (by unfold maxLen; omega) hbs ?_)
    intro w1 hown hgr
    have HB1 : Hid (Below w.heap.size w w1) := Lib.hid (HB.out.grown hgr hbs (fun k hk => by cases hk))
    have HI1 : Hid (EvI w1 w.heap.size (.slice (some ⟨w'.heap.size, 0, Option.none⟩) 0 A) []) := Lib.hid ⟨[], hown, fun i e h => by simp at h⟩
    clear hown hgr hz hz0 hz1 hz2 hbs HB
    go_wp2
    go_loopw [6, 35] (fun s6 s35 wr => ∃ (m : Nat), s35 = .int .i64 (m : Int) ∧ m ≤ A ∧ EvI wr w.heap.size s6 (x.take m) ∧ Below w.heap.size w wr) (fun _ s _ => A - (intOf s).toNat)
    case atStart => exact ⟨0, rfl, by omega, by simpa using HI1.out, HB1.out⟩
    case round =>
      clear HI1 HB1
      obtain ⟨m, rfl, hm, hi0, hb⟩ := hrel
      by_cases hlt : m < A
      · obtain ⟨g, hg⟩ : ∃ g, x[m]? = some g := ⟨_, List.getElem?_eq_getElem (by rw [HA.out]; exact hlt)⟩
        obtain ⟨qh, mh, ch, hhc⟩ := HR.out.at hbb hg
        obtain ⟨c1, c2, hmk⟩ := hhc wr hb
        have hml : (m : Int) < (A : Int) := by omega
        have hba := below_alloc wr (Obj.cells #[Value.int .i64 g.1, .slice qh mh ch] 39)
        have hba2 := hb.trans (hba.mono hb.size)
        have HC := Lib.hid (own_any g.1 g.2 _ _ (hhc _ hba2).2.2 (HK.out.mk8 g (List.mem_of_getElem? hg)))
        have hx' : x.take (m + 1) = x.take m ++ [(g.1, g.2)] := by
          rw [show x.take (m + 1) = x.take m ++ (x[m]?).toList from List.take_add_one, hg]
          rfl
        have HX := Lib.hid hx'
        have HI := Lib.hid (hi0.kept hba)
        have HB := Lib.hid hba2
        clear hhc hmk hg hx' hi0 hb hba hba2
        go_wp2_with (go_at_call 38; refine Hid.out ?_)
        refine Lib.hid ?_
        refine HC.out.mono ?_
        rintro r w3 ⟨u, rfl, hmu, huq, hb3⟩
        have hB3 := HB.out.trans (hb3.mono HB.out.size)
        have hgg := heap_alloc_new w3 (Obj.cells #[Value.int .i64 g.1, u] 39)
        have hWa := below_alloc w3 (Obj.cells #[Value.int .i64 g.1, u] 39)
        have hi3 := HI.out.kept hb3
        obtain ⟨v', w4, hrun, hi', hg', hat⟩ := app_ev2 (w3.alloc (Obj.cells #[Value.int .i64 g.1, u] 39)) w.heap.size _ u _ g.1 g.2 (hi3.kept hWa) (by rw [List.length_take]; omega) (by have := hB3.size; simp; omega) ⟨w3.heap.size, 0, Option.none⟩ (by rw [add_lit, cell_of_row _ _ _ _ _ _ hgg]; rfl) (by rw [add_lit, cell_of_row _ _ _ _ _ _ hgg]; rfl) (hmu.kept hWa)
          (fun q hq e => by
            have h1 := huq q hq
            obtain ⟨cs, hown, _⟩ := HI.out
            have h2 := (hown.lt q e).2
            omega)
        have HI' : Hid (EvI w4 w.heap.size v' (x.take (m + 1))) := Lib.hid (by rw [HX.out]; exact hi')
        have HB' : Hid (Below w.heap.size w w4) := Lib.hid ((hB3.trans (hWa.mono hB3.size)).grown hg' (by have := hB3.size; simp; omega) (fun q hq => by
          obtain ⟨cs, hown, _⟩ := HI.out
          exact (hown.lt q hq).1))
        clear hB3 hgg hWa hi3 hi' hg' hat hmu huq hb3 HC HI HB HX
        go_wp2_with (at_builtin; refine wpList_app rfl (.tmp 39) (.tmp 42) 25 rfl _ _ _ w4 rfl rfl hrun ?_)
        clear hrun c1 c2
        go_wp2
        go_roundw
        case rel => exact ⟨m + 1, by go_num, by omega, HI'.out, HB'.out⟩
        case measure => simp [intOf]; omega
      · obtain rfl : m = A := by omega
        rw [List.take_of_length_le (by rw [HA.out]; exact Nat.le_refl _)] at hi0
        have HI := Lib.hid hi0
        have HB := Lib.hid hb
        obtain ⟨cs, hown, hce⟩ := hi0
        rcases id hown.2 with ⟨_, hn⟩ | ⟨g, cap', cur, rfl, hbg, hg, hn, hm, hz, ht⟩
        · rw [HA.out] at hn; omega
        · rw [HA.out] at hn hown
          obtain ⟨u1, va, u2, ma, na⟩ := hce i e HE.out
          obtain ⟨u3, vb, u4, mb, nb⟩ := hce (i + 1) f HF.out
          obtain ⟨pa, ca, rfl, _⟩ := id ma
          obtain ⟨pb, cb, rfl, _⟩ := id mb
          have c0 : wr.cell? ⟨g, i * 2, Option.none⟩ = some (.int .i64 e.1) := by rw [hown.cellAt (i * 2) (by omega), u1]
          have c1 : wr.cell? ⟨g, i * 2 + 1, Option.none⟩ = some (.slice pa e.2.length ca) := by rw [hown.cellAt (i * 2 + 1) (by omega), u2]
          have c2 : wr.cell? ⟨g, (i + 1) * 2, Option.none⟩ = some (.int .i64 f.1) := by rw [hown.cellAt ((i + 1) * 2) (by omega), u3]
          have c3 : wr.cell? ⟨g, (i + 1) * 2 + 1, Option.none⟩ = some (.slice pb f.2.length cb) := by rw [hown.cellAt ((i + 1) * 2 + 1) (by omega), u4]
          have f0 := hown.frozenAt (i * 2)
          have f1 := hown.frozenAt (i * 2 + 1)
          have f2 := hown.frozenAt ((i + 1) * 2)
          have f3 := hown.frozenAt ((i + 1) * 2 + 1)
          have hgs : g < wr.heap.size := lt_of_block hg
          have hV := HI.out
          rw [HA.out] at hV
          have HE2 := Lib.hid (xch_ev hV HA.out HE.out HF.out hn hm c0 c1 c2 c3 hgs)
          have HB3 : Hid (Below w.heap.size w ((((wr.setCell ⟨g, i * 2, Option.none⟩ (.int .i64 f.1)).setCell ⟨g, i * 2 + 1, Option.none⟩ (.slice pb f.2.length cb)).setCell ⟨g, (i + 1) * 2, Option.none⟩ (.int .i64 e.1)).setCell ⟨g, (i + 1) * 2 + 1, Option.none⟩ (.slice pa e.2.length ca)).drew) := Lib.hid (bd4 HB.out hbg)
          rw [HA.out]
          clear u1 u2 u3 u4 ma mb na nb hown hce hg hz ht hV HI HB hb
          go_wp2_with fail
          go_region
          generalize ((((wr.setCell ⟨g, i * 2, Option.none⟩ (.int .i64 f.1)).setCell ⟨g, i * 2 + 1, Option.none⟩ (.slice pb f.2.length cb)).setCell ⟨g, (i + 1) * 2, Option.none⟩ (.int .i64 e.1)).setCell ⟨g, (i + 1) * 2 + 1, Option.none⟩ (.slice pa e.2.length ca)).drew = X at HE2 HB3 ⊢
          clear c0 c1 c2 c3 f0 f1 f2 f3
          go_wp2
          exact bodyPost_ret (v := .tuple #[.slice (some ⟨g, 0, Option.none⟩) m cap', .bool true]) (by simp [results, Try.results18, go_sem]) rfl ⟨_, rfl, HE2.out, HB3.out⟩
end Go.Proofs.Ytmhaelfmojigoaa
