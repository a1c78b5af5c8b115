/- slices.Equal, Index, Contains of races. -/
import Derived.Test.YtcbpkagegdfidaaRc
set_option linter.unusedSimpArgs false
set_option linter.unusedVariables false
namespace Go.Proofs.Ytcbpkagegdfidaa
open Go.RowKit

theorem neq_rc (a b c d : Int) (w : World) : (binOp .neq 30 (.agg #[.int .i64 a, .int .i64 b]) (.agg #[.int .i64 c, .int .i64 d])).run Try.prog w = .ok (.bool (!(a == c && b == d))) w := by
  rw [run_neq_struct, show (10000 : Nat) = 9999 + 1 from rfl, run_equalIn_agg w 9999 30 _ _ (by kernel_rfl) (by kernel_rfl)]
  by_cases h1 : a = c <;> by_cases h2 : b = d <;> simp [Op.eqFields, go_sem, h1, h2]
theorem eql_rc (a b c d : Int) (w : World) : (binOp .eql 30 (.agg #[.int .i64 a, .int .i64 b]) (.agg #[.int .i64 c, .int .i64 d])).run Try.prog w = .ok (.bool (a == c && b == d)) w := by
  rw [run_eql_struct, show (10000 : Nat) = 9999 + 1 from rfl, run_equalIn_agg w 9999 30 _ _ (by kernel_rfl) (by kernel_rfl)]
  by_cases h1 : a = c <;> by_cases h2 : b = d <;> simp [Op.eqFields, go_sem, h1, h2]
theorem cast_eq (p q : Nat × Nat) : (((p.1 : Int) == (q.1 : Int)) && ((p.2 : Int) == (q.2 : Int))) = decide (p = q) := by
  rw [Bool.eq_iff_iff, Bool.and_eq_true, beq_iff_eq, beq_iff_eq, decide_eq_true_eq, Prod.ext_iff]
  omega
theorem RcS.at {w : World} {p : Option Addr} {n cap j : Nat} {L : List (Nat × Nat)} {q : Nat × Nat} (h : RcS w (.slice p n cap) L) (hx : L[j]? = some q) :
    ∃ b o, p = some ⟨b, o, Option.none⟩ ∧ b < w.heap.size ∧ ∀ W, Below w.heap.size w W → W.cell? ⟨b, o + j * 2, Option.none⟩ = some (.int .i64 (q.1 : Int)) ∧ W.cell? ⟨b, o + j * 2 + 1, Option.none⟩ = some (.int .i64 (q.2 : Int)) := by
  obtain ⟨p', c', h1, _, h4⟩ := h
  simp only [Value.slice.injEq] at h1
  rcases h4 with ⟨_, e⟩ | ⟨b, o, hp, hb, hr⟩
  · rw [e] at hx; simp at hx
  · exact ⟨b, o, by rw [h1.1, hp], hb, fun W k => ⟨(k.cell (p := ⟨b, _, Option.none⟩) hb).trans (hr j q hx).1, (k.cell (p := ⟨b, _, Option.none⟩) hb).trans (hr j q hx).2⟩⟩
theorem RcS.form {w : World} {v : Value} {L : List (Nat × Nat)} (h : RcS w v L) : ∃ p cap, v = .slice p L.length cap ∧ L.length ≤ cap := by
  obtain ⟨p, cap, h1, h2, _⟩ := h
  exact ⟨p, cap, h1, h2⟩

set_option maxRecDepth 100000 in
set_option maxHeartbeats 6400000 in
theorem equal_rc (x y : List (Nat × Nat)) (v u : Value) (w : World) (hs : RcS w v x) (hu : RcS w u y) (hl : x.length ≤ 9000000) (hl2 : y.length ≤ 9000000) :
    Calls Try.prog 10 #[v, u] w fun e w' => e = .returned (.bool (decide (x = y))) ∧ Below w.heap.size w w' := by
  obtain ⟨p, cap, rfl, hcap⟩ := hs.form
  obtain ⟨q, cap2, rfl, hcap2⟩ := hu.form
  obtain ⟨A, hA⟩ : ∃ A, x.length = A := ⟨_, rfl⟩
  obtain ⟨B, hB⟩ : ∃ B, y.length = B := ⟨_, rfl⟩
  rw [hA] at hs hcap hl ⊢
  rw [hB] at hu hcap2 hl2 ⊢
  have HS := Lib.hid hs
  have HU := Lib.hid hu
  have HA := Lib.hid hA
  have HBL := Lib.hid hB
  clear hA hB hs hu
  by_cases hAB : A = B
  · subst hAB
    go_enter Try.func10, Try.ntmps10
    go_wp2
    go_loopw [13] (fun s wr => ∃ (j : Nat), s = .int .i64 (j : Int) ∧ j ≤ A ∧ x.take j = y.take j ∧ Below w.heap.size w wr) (fun s _ => A - (intOf s).toNat)
    case atStart => exact ⟨0, rfl, by omega, by simp, Below.refl _ _⟩
    case round =>
      obtain ⟨j, rfl, hj, ht, hb0⟩ := hrel
      have HT := Lib.hid ht
      have HB := Lib.hid hb0
      clear ht hb0
      by_cases hlt : j < A
      · obtain ⟨a, ha⟩ : ∃ a, x[j]? = some a := ⟨_, List.getElem?_eq_getElem (by rw [HA.out]; exact hlt)⟩
        obtain ⟨c, hc⟩ : ∃ c, y[j]? = some c := ⟨_, List.getElem?_eq_getElem (by rw [HBL.out]; exact hlt)⟩
        obtain ⟨b0, o0, rfl, hbb, hr⟩ := HS.out.at ha
        obtain ⟨b1, o1, rfl, hbb1, hr1⟩ := HU.out.at hc
        obtain ⟨c0, c1⟩ := hr wr HB.out
        obtain ⟨c2, c3⟩ := hr1 wr HB.out
        have HXA := Lib.hid ha
        have HYB := Lib.hid hc
        have hnq := neq_rc (a.1 : Int) (a.2 : Int) (c.1 : Int) (c.2 : Int)
        rw [cast_eq] at hnq
        clear ha hc hr hr1
        by_cases hab : a = c
        · have hd : decide (a = c) = true := decide_eq_true hab
          rw [hd] at hnq
          have HT2 : Hid (x.take (j + 1) = y.take (j + 1)) := Lib.hid (by
            rw [show x.take (j + 1) = x.take j ++ (x[j]?).toList from List.take_add_one, show y.take (j + 1) = y.take j ++ (y[j]?).toList from List.take_add_one, HT.out, HXA.out, HYB.out, hab])
          simp only [Bool.not_true] at hnq
          clear hd hab
          go_wp2_with fail
          go_quiet (fail)
          have HB2 : Hid (Below w.heap.size w (wr.drewN nq)) := Lib.hid (HB.out.trans ⟨rfl, rfl, rfl, Nat.le_refl _, fun _ _ => rfl⟩)
          generalize wr.drewN nq = w9 at HB2 ⊢
          clear c0 c1 c2 c3 hnq
          go_wp2
          go_roundw
          case rel => exact ⟨j + 1, by go_num, by omega, HT2.out, HB2.out⟩
          case measure => simp [intOf]; omega
        · have hd : decide (a = c) = false := decide_eq_false hab
          rw [hd] at hnq
          simp only [Bool.not_false] at hnq
          have hne : decide (x = y) = false := decide_eq_false fun h => hab (by
            have h1 := HXA.out; have h2 := HYB.out; rw [h, h2] at h1; exact (Option.some.inj h1).symm)
          have HNE := Lib.hid hne
          clear hne hd hab
          go_wp2_with fail
          go_quiet (fail)
          have HB2 : Hid (Below w.heap.size w (wr.drewN nq)) := Lib.hid (HB.out.trans ⟨rfl, rfl, rfl, Nat.le_refl _, fun _ _ => rfl⟩)
          generalize wr.drewN nq = w9 at HB2 ⊢
          clear c0 c1 c2 c3 hnq
          go_wp2
          go_ret
          exact ⟨by rw [HNE.out]; rfl, HB2.out⟩
      · obtain rfl : j = A := by omega
        have hxy : decide (x = y) = true := decide_eq_true (by
          have := HT.out
          rwa [List.take_of_length_le (by rw [HA.out]; exact Nat.le_refl _), List.take_of_length_le (by rw [HBL.out]; exact Nat.le_refl _)] at this)
        have HXY := Lib.hid hxy
        clear hxy
        go_wp2
        go_ret
        exact ⟨by rw [HXY.out]; rfl, HB.out⟩
  · have hne : decide (x = y) = false := decide_eq_false fun h => hAB (by rw [← HA.out, ← HBL.out, h])
    have HNE := Lib.hid hne
    have hAB' : ¬ (A : Int) = (B : Int) := by omega
    clear hne
    go_enter Try.func10, Try.ntmps10
    go_wp2
    go_ret
    exact ⟨by rw [HNE.out]; rfl, Below.refl _ _⟩
set_option maxRecDepth 100000 in
set_option maxHeartbeats 6400000 in
theorem index_rc (L : List (Nat × Nat)) (p : Nat × Nat) (u : Value) (w : World) (hu : RcS w u L) (hl : L.length ≤ 9000000) : Calls Try.prog 33 #[u, .agg #[.int .i64 (p.1 : Int), .int .i64 (p.2 : Int)]] w fun e w' => (∃ r : Int, e = .returned (.int .i64 r) ∧ (0 ≤ r ↔ p ∈ L)) ∧ Below w.heap.size w w' := by
  obtain ⟨q, cap, rfl, hcap⟩ := hu.form
  obtain ⟨A, hA⟩ : ∃ A, L.length = A := ⟨_, rfl⟩
  rw [hA] at hu hcap hl ⊢
  have HU := Lib.hid hu
  have HA := Lib.hid hA
  clear hA hu
  obtain ⟨p1, p2⟩ := p
  go_enter Try.func33, Try.ntmps33
  go_wp2
  have hWa := below_alloc w (Obj.cells #[Value.int .i64 (p1 : Int), .int .i64 (p2 : Int)] 30)
  have hga := heap_alloc_new w (Obj.cells #[Value.int .i64 (p1 : Int), .int .i64 (p2 : Int)] 30)
  have hsa : (w.alloc (Obj.cells #[Value.int .i64 (p1 : Int), .int .i64 (p2 : Int)] 30)).heap.size = w.heap.size + 1 := by simp
  have HWA := Lib.hid hWa
  have HGA := Lib.hid hga
  have HSA := Lib.hid hsa
  clear hWa hga hsa
  generalize w.alloc (Obj.cells #[Value.int .i64 (p1 : Int), .int .i64 (p2 : Int)] 30) = w1 at HWA HGA HSA ⊢
  go_loopw [8] (fun s wr => ∃ (j : Nat), s = .int .i64 (j : Int) ∧ j ≤ A ∧ (p1, p2) ∉ L.take j ∧ Below w1.heap.size w1 wr) (fun s _ => A - (intOf s).toNat)
  case atStart => exact ⟨0, rfl, by omega, by simp, Below.refl _ _⟩
  case round =>
    obtain ⟨j, rfl, hj, hn, hb⟩ := hrel
    have HN := Lib.hid hn
    have HB := Lib.hid hb
    clear hn hb
    have HBW : Hid (Below w.heap.size w wr) := Lib.hid (HWA.out.trans (HB.out.mono HWA.out.size))
    by_cases hlt : j < A
    · obtain ⟨x, hx⟩ : ∃ x, L[j]? = some x := ⟨_, List.getElem?_eq_getElem (by rw [HA.out]; exact hlt)⟩
      obtain ⟨b, o, rfl, hbb, hr⟩ := HU.out.at hx
      obtain ⟨c0, c1⟩ := hr wr HBW.out
      have hg1 : wr.heap[w.heap.size]? = some (Obj.cells #[Value.int .i64 (p1 : Int), .int .i64 (p2 : Int)] 30) := by rw [HB.out.block _ (by rw [HSA.out]; omega)]; exact HGA.out
      have c2 : wr.cell? ⟨w.heap.size, 0, Option.none⟩ = some (.int .i64 (p1 : Int)) := by rw [cell_of_row _ _ _ _ _ _ hg1]; rfl
      have c3 : wr.cell? ⟨w.heap.size, 1, Option.none⟩ = some (.int .i64 (p2 : Int)) := by rw [cell_of_row _ _ _ _ _ _ hg1]; rfl
      have HX := Lib.hid hx
      have hnq := eql_rc (p1 : Int) (p2 : Int) (x.1 : Int) (x.2 : Int)
      have hce := cast_eq (p1, p2) x
      dsimp only at hce
      rw [hce] at hnq
      clear hx hr hg1 hce
      by_cases hxn : (p1, p2) = x
      · have hd : decide ((p1, p2) = x) = true := decide_eq_true hxn
        rw [hd] at hnq
        have HM : Hid ((p1, p2) ∈ L) := Lib.hid (by rw [hxn]; exact List.mem_of_getElem? HX.out)
        clear hd hxn
        go_wp2_with fail
        go_quiet (fail)
        have HB2 : Hid (Below w.heap.size w (wr.drewN nq)) := Lib.hid (HBW.out.trans ⟨rfl, rfl, rfl, Nat.le_refl _, fun _ _ => rfl⟩)
        generalize wr.drewN nq = w9 at HB2 ⊢
        clear c0 c1 c2 c3 hnq
        go_wp2
        go_ret
        exact ⟨⟨j, rfl, ⟨fun _ => HM.out, fun _ => by omega⟩⟩, HB2.out⟩
      · have hd : decide ((p1, p2) = x) = false := decide_eq_false hxn
        rw [hd] at hnq
        have HN2 : Hid ((p1, p2) ∉ L.take (j + 1)) := Lib.hid (by
          rw [show L.take (j + 1) = L.take j ++ (L[j]?).toList from List.take_add_one, HX.out]
          simp only [Option.toList_some, List.mem_append, List.mem_singleton, not_or]
          exact ⟨HN.out, hxn⟩)
        clear hd hxn
        go_wp2_with fail
        go_quiet (fail)
        have HB2 : Hid (Below w1.heap.size w1 (wr.drewN nq)) := Lib.hid (HB.out.trans ⟨rfl, rfl, rfl, Nat.le_refl _, fun _ _ => rfl⟩)
        generalize wr.drewN nq = w9 at HB2 ⊢
        clear c0 c1 c2 c3 hnq
        go_wp2
        go_roundw
        case rel => exact ⟨j + 1, by go_num, by omega, HN2.out, HB2.out⟩
        case measure => simp [intOf]; omega
    · have hn : (p1, p2) ∉ L := by have := HN.out; rwa [List.take_of_length_le (by rw [HA.out]; omega)] at this
      have HN2 := Lib.hid hn
      clear hn
      go_wp2
      go_ret
      exact ⟨⟨-1, rfl, ⟨fun h => by omega, fun h => absurd h HN2.out⟩⟩, HBW.out⟩
set_option maxHeartbeats 2000000 in
theorem contains_rc (L : List (Nat × Nat)) (p : Nat × Nat) (u : Value) (w : World) (hu : RcS w u L) (hl : L.length ≤ 9000000) : Calls Try.prog 20 #[u, .agg #[.int .i64 (p.1 : Int), .int .i64 (p.2 : Int)]] w fun e w' => e = .returned (.bool (decide (p ∈ L))) ∧ Below w.heap.size w w' := by
  have hWa := below_alloc w (Obj.cells #[Value.int .i64 (p.1 : Int), .int .i64 (p.2 : Int)] 30)
  have HI := Lib.hid (index_rc L p u _ (hu.kept hWa) hl)
  have HW := Lib.hid hWa
  obtain ⟨p1, p2⟩ := p
  clear hu hWa
  go_enter Try.func20, Try.ntmps20
  go_wp2_with (go_at_call 33; refine Hid.out ?_)
  refine Lib.hid ?_
  refine HI.out.mono ?_
  rintro e w1 ⟨⟨r, rfl, hr⟩, hb⟩
  have HB := Lib.hid (HW.out.trans (hb.mono HW.out.size))
  clear hb
  by_cases h : 0 ≤ r
  · have hm : decide ((p1, p2) ∈ L) = true := decide_eq_true (hr.1 h)
    have HM := Lib.hid hm
    clear hm hr
    go_wp2
    go_ret
    exact ⟨by rw [HM.out]; simp, HB.out⟩
  · have hm : decide ((p1, p2) ∈ L) = false := decide_eq_false fun hn => h (hr.2 hn)
    have HM := Lib.hid hm
    clear hm hr
    go_wp2
    go_ret
    exact ⟨by rw [HM.out]; simp; omega, HB.out⟩
end Go.Proofs.Ytcbpkagegdfidaa
