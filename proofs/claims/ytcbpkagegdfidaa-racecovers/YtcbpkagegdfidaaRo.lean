/- race.All: of each event those that happen ahead of it with none between, of unlike threads. -/
import Derived.Test.YtcbpkagegdfidaaNr
import Derived.Test.YtcbpkagegdfidaaRc
set_option linter.unusedSimpArgs false
set_option linter.unusedVariables false
namespace Go.Proofs.Ytcbpkagegdfidaa
open Go.RowKit

/-- A race appended, and where the row lies then. -/
theorem app_rc2 (W : World) (base : Nat) (u : Value) (L : List (Nat × Nat)) (p : Nat × Nat) (h : W.ownsRow base 30 2 u L.length (pvs L)) (hl : L.length ≤ 1001000) (hb : base ≤ W.heap.size) (a : Addr) (h0 : W.cell? (a.add 0) = some (.int .i64 (p.1 : Int))) (h1 : W.cell? (a.add 1) = some (.int .i64 (p.2 : Int))) :
    ∃ q m c w', (∀ ty, (Builtin.append_ #[28, 28] ty #[u, .slice (some a) 1 1]).run Try.prog W = .ok (.slice q m c) w') ∧ w'.ownsRow base 30 2 (.slice q m c) (L ++ [p]).length (pvs (L ++ [p])) ∧ W.grownBy w' u.ownBlock ∧ ((Value.slice q m c).ownBlock = u.ownBlock ∨ (Value.slice q m c).ownBlock = some W.heap.size) := by
  obtain ⟨i0, hi, hz, hs, hby⟩ := rc_info
  have hn : ∀ j c, (pv p)[j]? = some c → W.cell? (a.add j) = some c := by
    intro j c hj
    match j with
    | 0 => simp [pv] at hj; rw [← hj]; exact h0
    | 1 => simp [pv] at hj; rw [← hj]; exact h1
    | j + 2 => simp [pv] at hj
  have key := fun ty => run_append_own_at (P := Try.prog) W base 28 ty 30 i0 _ 2 16 Try.underlying28 hi hz hs hby rfl (by omega) u L.length (pvs L) h a 1 1 (pv p) rfl hn (by intro c hc; simp [pv] at hc; rcases hc with rfl | rfl <;> rfl) (by unfold maxLen; omega) (by omega) hb
  obtain ⟨v', w', hr, ho, hg, _, hat⟩ := key 0
  obtain ⟨q, m, c, rfl⟩ := own_form ho
  refine ⟨q, m, c, w', fun ty => ?_, by rw [pvs_app]; simpa [pvs] using ho, hg, hat⟩
  obtain ⟨v2, w2, hr2, _⟩ := key ty
  exact hr
/-- Of the first k of a list those of other threads than t's, with J behind each. -/
def rcp (x : Evl) (N : List Nat) (t : Int) (J k : Nat) : List (Nat × Nat) := ((N.take k).filter fun i => decide ((x[i]!).1 ≠ t)).map fun i => (i, J)
theorem rcp_zero (x : Evl) (N : List Nat) (t : Int) (J : Nat) : rcp x N t J 0 = [] := by simp [rcp]
theorem rcp_step {x : Evl} {N : List Nat} {t : Int} {J k i : Nat} (h : N[k]? = some i) : rcp x N t J (k + 1) = rcp x N t J k ++ (if (x[i]!).1 ≠ t then [(i, J)] else []) := by
  unfold rcp
  rw [List.take_add_one, h, Option.toList_some, List.filter_append, List.map_append, List.filter_cons, List.filter_nil]
  by_cases hq : (x[i]!).1 ≠ t
  · rw [if_pos hq, if_pos (by simpa using hq)]; rfl
  · rw [if_neg hq, if_neg (by simpa using hq)]; rfl
theorem rcp_len (x : Evl) (N : List Nat) (t : Int) (J k : Nat) : (rcp x N t J k).length ≤ N.length := by
  unfold rcp
  rw [List.length_map]
  refine Nat.le_trans (List.length_filter_le _ _) ?_
  rw [List.length_take]; omega
theorem rcp_end {x : Evl} {J k : Nat} {f : Int × List (Int × Bool)} (hf : x[J]? = some f) (hk : (cvs edep x J 0).reverse.length ≤ k) : rcp x (cvs edep x J 0).reverse f.1 J k = racn edep (·.1) x J J := by
  unfold rcp
  rw [List.take_of_length_le hk, racn_cvs hf]

set_option maxRecDepth 100000 in
set_option maxHeartbeats 16000000 in
theorem all_o {Ob : World → Value → Evl → Prop} (KP : KpO Ob) (HNW : NewO Ob) (HBE : BefO Ob) (x : Evl) (v : Value) (w : World) (hs : EvS w v x) (hk : Evk x) : Calls Try.prog 11 #[v] w fun e w' => ∃ v', e = .returned v' ∧ RcS w' v' (racs edep (·.1) x x.length) ∧ Below w.heap.size w w' := by
  have HN0 := Lib.hid (HNW x v w hs hk)
  have HS := Lib.hid hs
  have HK := Lib.hid hk
  obtain ⟨p, cap, rfl, hcap, hcm, h4⟩ := hs
  have hA60 : x.length ≤ 60 := hk.1
  obtain ⟨A, hA⟩ : ∃ A, x.length = A := ⟨_, rfl⟩
  rw [hA] at HN0 HS hcap hA60 ⊢
  have HA := Lib.hid hA
  have H4 := Lib.hid h4
  clear h4 hk hA
  go_enter Try.func11, Try.ntmps11
  go_wp2_with (go_at_call 25; refine Hid.out ?_)
  refine Lib.hid ?_
  refine HN0.out.mono ?_
  rintro e w1 ⟨v1, rfl, ⟨pO, mO, cO, rfl, hob⟩, hb1⟩
  have HOB := Lib.hid hob
  have HB1 := Lib.hid hb1
  clear HN0 hob hb1
  go_wp2
  have hgB := heap_alloc_new w1 (Obj.cells #[Value.slice pO mO cO] 58)
  have hbB := below_alloc w1 (Obj.cells #[Value.slice pO mO cO] 58)
  have hsB : (w1.alloc (Obj.cells #[Value.slice pO mO cO] 58)).heap.size = w1.heap.size + 1 := by simp
  generalize w1.alloc (Obj.cells #[Value.slice pO mO cO] 58) = wB at hgB hbB hsB ⊢
  have HGB := Lib.hid hgB
  have HBB := Lib.hid hbB
  have HSB := Lib.hid hsB
  clear hgB hbB hsB
  go_loopw [4, 13] (fun s4 s13 wr => ∃ (J : Nat), s13 = .int .i64 (J : Int) ∧ J ≤ A ∧ wr.ownsRow wB.heap.size 30 2 s4 (racs edep (·.1) x J).length (pvs (racs edep (·.1) x J)) ∧ Below wB.heap.size wB wr) (fun _ s _ => A - (intOf s).toNat)
  case atStart => exact ⟨0, rfl, by omega, by simpa [racs, pvs] using World.ownsRow_nil _ _ _ _, Below.refl _ _⟩
  case round =>
    obtain ⟨J, rfl, hJ, ho, hb⟩ := hrel
    have HO := Lib.hid ho
    have HB := Lib.hid hb
    clear ho hb
    by_cases hlt : J < A
    · obtain ⟨f, hf⟩ : ∃ f, x[J]? = some f := ⟨_, List.getElem?_eq_getElem (by rw [HA.out]; exact hlt)⟩
      obtain ⟨b, o, rfl, hbb, hr⟩ : ∃ b o, p = some ⟨b, o, Option.none⟩ ∧ b < w.heap.size ∧ EvR w b o x := by
        rcases H4.out with ⟨_, h⟩ | h
        · rw [h] at hf; simp at hf
        · exact h
      obtain ⟨qf, mf, cf, hfc⟩ := hr.at hbb hf
      have HF := Lib.hid hf
      have HR := Lib.hid hr
      have hw1B : Below w.heap.size w wB := HB1.out.trans (HBB.out.mono HB1.out.size)
      have HWB := Lib.hid hw1B
      have hwr : Below w.heap.size w wr := hw1B.trans (HB.out.mono hw1B.size)
      obtain ⟨c1, c2, _⟩ := hfc wr hwr
      have hJA : (J : Int) < (A : Int) := by omega
      have hJ0 : (0 : Int) ≤ (J : Int) := by omega
      have hg2 := heap_alloc_new wr (Obj.cells #[Value.int .i64 f.1, .slice qf mf cf] 38)
      have hb2 := below_alloc wr (Obj.cells #[Value.int .i64 f.1, .slice qf mf cf] 38)
      obtain ⟨w2, hw2⟩ : ∃ w2, wr.alloc (Obj.cells #[Value.int .i64 f.1, .slice qf mf cf] 38) = w2 := ⟨_, rfl⟩
      have hs2 : w2.heap.size = wr.heap.size + 1 := by rw [← hw2]; simp
      rw [hw2] at hg2 hb2
      have HW2 := Lib.hid hw2
      have HG2 := Lib.hid hg2
      have HS2 := Lib.hid hs2
      have HB2 : Hid (Below wB.heap.size wB w2) := Lib.hid (HB.out.trans (hb2.mono HB.out.size))
      have HO2 := Lib.hid (own_kept HO.out hb2)
      have hcb : w2.cell? ⟨w1.heap.size, 0, Option.none⟩ = some (.slice pO mO cO) := by
        have h := (HB2.out.block w1.heap.size (by rw [HSB.out]; omega)).trans HGB.out
        rw [cell_of_row _ _ _ _ _ _ h]; rfl
      have hB12 : Below w1.heap.size w1 w2 := HBB.out.trans (HB2.out.mono HBB.out.size)
      have HN := Lib.hid (near_o KP HBE x pO mO cO J w2 (KP _ _ _ _ HOB.out hB12) HK.out (by rw [HA.out]; exact hlt))
      have HX : Hid (∀ q, u4.ownBlock = some q → q < wr.heap.size) := Lib.hid fun q hq => (HO.out.lt q hq).2
      clear hf hfc hr hwr hg2 hb2 hs2 hB12 hw1B HW2
      go_wp2_with (go_at_call 26; refine Hid.out ?_)
      refine Lib.hid ?_
      refine HN.out.mono ?_
      rintro e w3 ⟨v3, rfl, hns, hq3, hb3⟩
      clear hw2 hcb c1 c2
      have HB3 : Hid (Below wB.heap.size wB w3) := Lib.hid (HB2.out.trans (hb3.mono HB2.out.size))
      have HO3 := Lib.hid (own_kept HO2.out hb3)
      have hg3 := (hb3.block wr.heap.size (by rw [HS2.out]; omega)).trans HG2.out
      have HG3 := Lib.hid hg3
      have hNl : (cvs edep x J 0).reverse.length ≤ J := by rw [List.length_reverse]; exact cvs_len J 0
      have hNm : ∀ i ∈ (cvs edep x J 0).reverse, i < J := fun i hi => (cvs_mem.1 (List.mem_reverse.1 hi)).1
      have hEnd : ∀ k, (cvs edep x J 0).reverse.length ≤ k → rcp x (cvs edep x J 0).reverse f.1 J k = racn edep (·.1) x J J := fun k hk => rcp_end HF.out hk
      generalize (cvs edep x J 0).reverse = N at hns hNl hNm hEnd
      obtain ⟨n, hn⟩ : ∃ n, N.length = n := ⟨_, rfl⟩
      obtain ⟨pN, cN, hve, hcN, _⟩ := id hns
      rw [hn] at hve hcN hNl hEnd
      subst hve
      have HN3 := Lib.hid hns
      have HNM := Lib.hid hNm
      have HEND := Lib.hid hEnd
      have HNL := Lib.hid hn
      have HQ3 : Hid (∀ q, (Value.slice pN n cN).ownBlock = some q → u4.ownBlock ≠ some q) := Lib.hid fun q hq e => by
        have h1 := hq3 q hq
        have h2 := HX.out q e
        have h3 := HS2.out
        omega
      have HX3 : Hid (u4.ownBlock ≠ some wr.heap.size) := Lib.hid fun e => by
        have h2 := HX.out _ e
        omega
      have HRL : Hid (racs edep (·.1) x J ++ rcp x N f.1 J 0 = racs edep (·.1) x J) := Lib.hid (by rw [rcp_zero, List.append_nil])
      obtain ⟨X, hXe⟩ : ∃ X, wr.heap.size = X := ⟨_, rfl⟩
      rw [hXe] at HX3 HG3 ⊢
      clear hns hq3 hb3 hg3 hNm hEnd hn HN HX HB2 HO2 HG2 HS2
      go_wp2_with fail
      go_loopw [4, 22] (fun s4 s22 wk => ∃ (k : Nat), s22 = .int .i64 (k : Int) ∧ k ≤ n ∧ wk.ownsRow wB.heap.size 30 2 s4 (racs edep (·.1) x J ++ rcp x N f.1 J k).length (pvs (racs edep (·.1) x J ++ rcp x N f.1 J k)) ∧ NsS wk (.slice pN n cN) N ∧ (∀ q, (Value.slice pN n cN).ownBlock = some q → s4.ownBlock ≠ some q) ∧ s4.ownBlock ≠ some X ∧ wk.heap[X]? = some (Obj.cells #[Value.int .i64 f.1, .slice qf mf cf] 38) ∧ Below wB.heap.size wB wk) (fun _ s _ => n - (intOf s).toNat)
      case atStart => exact ⟨0, rfl, by omega, by rw [HRL.out]; exact HO3.out, HN3.out, HQ3.out, HX3.out, HG3.out, HB3.out⟩
      case round =>
        clear HO3 HN3 HQ3 HX3 HG3 HB3
        obtain ⟨k, rfl, hk, ho, hns, hnq, hx4, hgx, hb⟩ := hrel
        by_cases hltk : k < n
        · obtain ⟨i, hi⟩ : ∃ i, N[k]? = some i := ⟨_, List.getElem?_eq_getElem (by rw [HNL.out]; exact hltk)⟩
          have hiJ := HNM.out i (List.mem_of_getElem? hi)
          obtain ⟨e, he⟩ : ∃ e, x[i]? = some e := ⟨_, List.getElem?_eq_getElem (by rw [HA.out]; omega)⟩
          have hei : x[i]! = e := by obtain ⟨h1, h2⟩ := List.getElem?_eq_some_iff.1 he; rw [getElem!_pos x i h1, h2]
          obtain ⟨b1, o1, rfl, d0⟩ : ∃ b o, pN = some ⟨b, o, Option.none⟩ ∧ wr.cell? ⟨b, o + k, Option.none⟩ = some (.int .i64 (i : Int)) := by
            obtain ⟨_, _, h1, _, h2⟩ := hns
            simp only [Value.slice.injEq] at h1
            obtain ⟨rfl, _, rfl⟩ := h1
            rcases h2 with ⟨_, e⟩ | ⟨b, o, rfl, _, h⟩
            · rw [e] at hi; simp at hi
            · exact ⟨b, o, rfl, h k i hi⟩
          obtain ⟨qe, me, ce, hec⟩ := HR.out.at hbb he
          have hwk : Below w.heap.size w wr := HWB.out.trans (hb.mono HWB.out.size)
          obtain ⟨d1, _, _⟩ := hec wr hwk
          have d2 : wr.cell? ⟨X, 0, Option.none⟩ = some (.int .i64 f.1) := by rw [cell_of_row _ _ _ _ _ _ hgx]; rfl
          have hkn : (k : Int) < (n : Int) := by omega
          have hk0 : (0 : Int) ≤ (k : Int) := by omega
          have hiA : (i : Int) < (A : Int) := by omega
          have hi0 : (0 : Int) ≤ (i : Int) := by omega
          have hwk1 : IntKind.i64.wrap ((k : Int) + 1) = ((k + 1 : Nat) : Int) := by rw [IntKind.wrap_i64]; omega
          have HST : Hid (rcp x N f.1 J (k + 1) = rcp x N f.1 J k ++ (if e.1 ≠ f.1 then [(i, J)] else [])) := Lib.hid (by rw [rcp_step hi, hei])
          have HO := Lib.hid ho
          have HNS := Lib.hid hns
          have HNQ := Lib.hid hnq
          have HX4 := Lib.hid hx4
          have HGX := Lib.hid hgx
          have HB := Lib.hid hb
          clear hi he hei hec hwk ho hns hnq hx4 hgx hb
          by_cases hne : e.1 = f.1
          · have hd0 : (e.1 != f.1) = false := by simp [hne]
            have hd1 : decide (e.1 = f.1) = true := decide_eq_true hne
            have HSAME : Hid (rcp x N f.1 J (k + 1) = rcp x N f.1 J k) := Lib.hid (by rw [HST.out, if_neg (by simp [hne]), List.append_nil])
            go_wp2_with fail
            go_quiet (fail)
            have HD : Hid (Below wr.heap.size wr (wr.drewN nq)) := Lib.hid ⟨rfl, rfl, rfl, Nat.le_refl _, fun _ _ => rfl⟩
            have HO5 := Lib.hid (own_kept HO.out HD.out)
            have HNS5 := Lib.hid (HNS.out.kept HD.out)
            have HGX5 : Hid ((wr.drewN nq).heap[X]? = some (Obj.cells #[Value.int .i64 f.1, .slice qf mf cf] 38)) := Lib.hid HGX.out
            have HB5 := Lib.hid (HB.out.trans (HD.out.mono HB.out.size))
            clear d0 d1 d2 HD
            generalize wr.drewN nq = w9 at HO5 HNS5 HGX5 HB5 ⊢
            go_wp2
            go_roundw
            case rel => exact ⟨k + 1, by go_num, by omega, by rw [HSAME.out]; exact HO5.out, HNS5.out, HNQ.out, HX4.out, HGX5.out, HB5.out⟩
            case measure => simp [intOf]; omega
          · have hd0 : (e.1 != f.1) = true := by simp [hne]
            have hd1 : decide (e.1 = f.1) = false := decide_eq_false hne
            have HAPP : Hid (racs edep (·.1) x J ++ rcp x N f.1 J (k + 1) = (racs edep (·.1) x J ++ rcp x N f.1 J k) ++ [(i, J)]) := Lib.hid (by rw [HST.out, if_pos hne, List.append_assoc])
            go_wp2_with fail
            go_quiet (fail)
            have HD : Hid (Below wr.heap.size wr (wr.drewN nq)) := Lib.hid ⟨rfl, rfl, rfl, Nat.le_refl _, fun _ _ => rfl⟩
            have HO5 := Lib.hid (own_kept HO.out HD.out)
            have HNS5 := Lib.hid (HNS.out.kept HD.out)
            have HGX5 : Hid ((wr.drewN nq).heap[X]? = some (Obj.cells #[Value.int .i64 f.1, .slice qf mf cf] 38)) := Lib.hid HGX.out
            have HB5 := Lib.hid (HB.out.trans (HD.out.mono HB.out.size))
            clear d0 d1 d2 HD
            generalize wr.drewN nq = w9 at HO5 HNS5 HGX5 HB5 ⊢
            have hg := heap_alloc_new w9 (Obj.cells #[Value.int .i64 (i : Int), .int .i64 (J : Int)] 30)
            have hWa := below_alloc w9 (Obj.cells #[Value.int .i64 (i : Int), .int .i64 (J : Int)] 30)
            have hXl : X < w9.heap.size := lt_of_block HGX5.out
            have hlen : (racs edep (·.1) x J ++ rcp x N f.1 J k).length ≤ 1001000 := by
              rw [List.length_append]
              have h1 := racs_len x J
              have h2 := rcp_len x N f.1 J k
              have h3 : J * J ≤ 60 * 60 := Nat.mul_le_mul (by omega) (by omega)
              rw [HNL.out] at h2
              omega
            obtain ⟨p', m', c', w'', hrun, ho', hgr, hat⟩ := app_rc2 (w9.alloc (Obj.cells #[Value.int .i64 (i : Int), .int .i64 (J : Int)] 30)) wB.heap.size u4 _ (i, J) (own_kept HO5.out hWa) hlen (by have := HB5.out.size; simp; omega) ⟨w9.heap.size, 0, Option.none⟩ (by rw [add_lit, cell_of_row _ _ _ _ _ _ hg]; rfl) (by rw [add_lit, cell_of_row _ _ _ _ _ _ hg]; rfl)
            rw [← HAPP.out] at ho'
            have HO6 := Lib.hid ho'
            have HB6 : Hid (Below wB.heap.size wB w'') := Lib.hid ((HB5.out.trans (hWa.mono HB5.out.size)).grown hgr (by have := HB5.out.size; simp; omega) (fun q hq => (HO5.out.lt q hq).1))
            have hns6 := HNS5.out.kept hWa
            have HNS6 : Hid (NsS w'' (.slice (some ⟨b1, o1, Option.none⟩) n cN) N) := Lib.hid (hns6.grown hgr (fun q hq => HNQ.out q hq))
            have HNQ6 : Hid (∀ q, (Value.slice (some ⟨b1, o1, Option.none⟩) n cN).ownBlock = some q → (Value.slice p' m' c').ownBlock ≠ some q) := Lib.hid fun q hq e => by
              rcases hat with hat | hat
              · exact HNQ.out q hq (hat.symm.trans e)
              · obtain ⟨_, _, h1, _, h2⟩ := hns6
                simp only [Value.slice.injEq] at h1
                obtain ⟨rfl, _, rfl⟩ := h1
                rcases h2 with ⟨e2, _⟩ | ⟨b, o, e2, hlt2, _⟩
                · cases e2
                · cases e2
                  have h3 := Option.some.inj (hat.symm.trans e)
                  have h4 : b1 = q := Option.some.inj hq
                  omega
            have HX6 : Hid ((Value.slice p' m' c').ownBlock ≠ some X) := Lib.hid fun e => by
              rcases hat with hat | hat
              · exact HX4.out (hat.symm.trans e)
              · have h3 := Option.some.inj (hat.symm.trans e)
                simp at h3
                omega
            have HGX6 : Hid (w''.heap[X]? = some (Obj.cells #[Value.int .i64 f.1, .slice qf mf cf] 38)) := Lib.hid (by
              have h1 := hgr.block X (by simp; omega) (fun e => HX4.out e.symm)
              rw [h1, (hWa.block X hXl)]
              exact HGX5.out)
            clear hg hWa hlen ho' hgr hat hns6 hXl HO5 HNS5 HGX5 HB5 HNQ HX4
            go_wp2_with (at_builtin; refine wpList_app rfl (.tmp 34) (.tmp 38) 28 rfl _ _ _ w'' rfl rfl hrun ?_)
            clear hrun
            go_wp2
            go_roundw
            case rel => exact ⟨k + 1, by go_num, by omega, HO6.out, HNS6.out, HNQ6.out, HX6.out, HGX6.out, HB6.out⟩
            case measure => simp [intOf]; omega
        · obtain rfl : k = n := by omega
          rw [HEND.out k (Nat.le_refl _), ← racs_step] at ho
          have HO7 := Lib.hid ho
          have HB7 := Lib.hid hb
          have hwJ : IntKind.i64.wrap ((J : Int) + 1) = ((J + 1 : Nat) : Int) := by rw [IntKind.wrap_i64]; omega
          clear ho hns hnq hx4 hgx hb
          go_wp2
          go_roundw
          case rel => exact ⟨J + 1, by go_num, by omega, HO7.out, HB7.out⟩
          case measure => simp [intOf]; omega
    · obtain rfl : J = A := by omega
      have HE := Lib.hid (rc_of_own HO.out)
      have HK2 : Hid (Below w.heap.size w wr) := Lib.hid (HB1.out.trans ((HBB.out.trans (HB.out.mono HBB.out.size)).mono HB1.out.size))
      go_wp2
      go_ret
      exact ⟨_, rfl, HE.out, HK2.out⟩
end Go.Proofs.Ytcbpkagegdfidaa
