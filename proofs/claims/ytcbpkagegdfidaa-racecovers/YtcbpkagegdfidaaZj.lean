/- braid.Initials: the threads whose first event can come first, as bits. -/
import Derived.Test.YtcbpkagegdfidaaZi
import Derived.Test.YtcbpkagegdfidaaNp
set_option linter.unusedSimpArgs false
set_option linter.unusedVariables false
namespace Go.Proofs.Ytcbpkagegdfidaa
open Go.RowKit

/-- The bits of the first m events. -/
def inm (x : Evl) (m : Nat) : Nat := bitsI ((frs (dpi x) [] (List.range m)).map (thi x))
theorem inm_step {x : Evl} {m : Nat} {e : Int × List (Int × Bool)} (he : x[m]? = some e) : inm x (m + 1) = if ((x.take m).any fun a => edep a e) then inm x m else inm x m ||| (1 <<< e.1.toNat) := by
  unfold inm
  rw [List.range_succ, frs_app, List.nil_append, frs, frs, List.append_nil, List.map_append]
  have hm := (List.getElem?_eq_some_iff.1 he).1
  have h : ((List.range m).all fun k => !dpi x k m) = !(x.take m).any fun a => edep a e := by
    rw [Bool.eq_iff_iff, List.all_eq_true, Bool.not_eq_true', ← Bool.not_eq_true, List.any_eq_true]
    constructor
    · rintro h ⟨a, ha, hd⟩
      obtain ⟨k, hk⟩ := List.getElem?_of_mem ha
      have hkm : k < m := by have := (List.getElem?_eq_some_iff.1 hk).1; rw [List.length_take] at this; omega
      rw [List.getElem?_take, if_pos hkm] at hk
      have := h k (List.mem_range.2 hkm)
      rw [dpi_at hk he, hd] at this
      cases this
    · intro h k hk
      have hkm := List.mem_range.1 hk
      obtain ⟨a, ha⟩ : ∃ a, x[k]? = some a := ⟨_, List.getElem?_eq_getElem (by omega)⟩
      rw [dpi_at ha he]
      cases hd : edep a e with
      | false => rfl
      | true => exact absurd ⟨a, List.mem_of_getElem? (i := k) (by rw [List.getElem?_take, if_pos hkm]; exact ha), hd⟩ h
  rw [h]
  cases (x.take m).any fun a => edep a e with
  | true => simp
  | false =>
    simp only [Bool.not_false, if_true, List.map_cons, List.map_nil, Bool.false_eq_true, if_false]
    rw [bits_snoc, thi_at he]
theorem inm_lt {x : Evl} (hk : Evk x) {m : Nat} (hm : m ≤ x.length) : inm x m < 32 := by
  unfold inm
  refine bits_lt _ fun t ht => ?_
  obtain ⟨i, hi, rfl⟩ := List.mem_map.1 ht
  have him := List.mem_range.1 (frs_mem hi)
  obtain ⟨e, he⟩ : ∃ e, x[i]? = some e := ⟨_, List.getElem?_eq_getElem (by omega)⟩
  rw [thi_at he]
  exact (hk.2 e (List.mem_of_getElem? he)).2
theorem EvS.pre {w : World} {p : Option Addr} {n cap J : Nat} {x : Evl} (h : EvS w (.slice p n cap) x) (hJ : J < x.length) : EvS w (.slice p J cap) (x.take J) := by
  obtain ⟨q, c, h1, h2, h3, h4⟩ := h
  simp only [Value.slice.injEq] at h1
  obtain ⟨rfl, rfl, rfl⟩ := h1
  have hl : (x.take J).length = J := by rw [List.length_take]; omega
  refine ⟨p, cap, by rw [hl], by rw [hl]; omega, h3, ?_⟩
  rcases h4 with ⟨_, h⟩ | ⟨b, o, rfl, hb, hr⟩
  · rw [h] at hJ; simp at hJ
  · refine .inr ⟨b, o, rfl, hb, fun i e hi => ?_⟩
    have hij : i < J := by have := (List.getElem?_eq_some_iff.1 hi).1; rw [hl] at this; exact this
    rw [List.getElem?_take, if_pos hij] at hi
    exact hr i e hi

set_option maxRecDepth 100000 in
set_option maxHeartbeats 16000000 in
theorem initials_o (x : Evl) (v : Value) (w : World) (hs : EvS w v x) (hk : Evk x) : Calls Try.prog 35 #[v] w fun e w' => e = .returned (.int .u64 (ini x : Nat)) ∧ Below w.heap.size w w' := by
  have HS := Lib.hid hs
  obtain ⟨p, cap, rfl, hcap, hcm, h4⟩ := hs
  have hA60 : x.length ≤ 60 := hk.1
  have hfin : inm x x.length = ini x := (ini_frs x).symm
  obtain ⟨A, hA⟩ : ∃ A, x.length = A := ⟨_, rfl⟩
  rw [hA] at HS hcap hA60 hfin ⊢
  have HA := Lib.hid hA
  have HK := Lib.hid hk
  have H4 := Lib.hid h4
  have HFIN := Lib.hid hfin
  clear hA h4 hk hfin
  go_enter Try.func35, Try.ntmps35
  go_wp2
  go_loopw [3, 8] (fun s3 s8 wr => ∃ (m : Nat), s8 = .int .i64 (m : Int) ∧ m ≤ A ∧ s3 = .int .u64 ((inm x m : Nat) : Int) ∧ Below w.heap.size w wr) (fun _ s _ => A - (intOf s).toNat)
  case atStart => exact ⟨0, rfl, by omega, rfl, Below.refl _ _⟩
  case round =>
    obtain ⟨m, rfl, hm, rfl, hb⟩ := hrel
    by_cases hlt : m < A
    · obtain ⟨e, he⟩ : ∃ e, x[m]? = some e := ⟨_, List.getElem?_eq_getElem (by rw [HA.out]; exact hlt)⟩
      obtain ⟨b0, o0, rfl, hbb, hr⟩ : ∃ b o, p = some ⟨b, o, Option.none⟩ ∧ b < w.heap.size ∧ EvR w b o x := by
        rcases H4.out with ⟨_, h⟩ | h
        · rw [h] at he; simp at he
        · exact h
      obtain ⟨q, n, c, hec⟩ := hr.at hbb he
      obtain ⟨c1, c2, _⟩ := hec wr hb
      have hst := inm_step he
      have h32 := inm_lt HK.out (m := m) (by rw [HA.out]; exact hm)
      have hek := HK.out.2 e (List.mem_of_getElem? he)
      obtain ⟨X, hX⟩ : ∃ X, wr.heap.size = X := ⟨_, rfl⟩
      obtain ⟨wb, hwb⟩ : ∃ wb, wr.alloc (Obj.cells #[Value.int .i64 e.1, .slice q n c] 38) = wb := ⟨_, rfl⟩
      have hg := heap_alloc_new wr (Obj.cells #[Value.int .i64 e.1, .slice q n c] 38)
      have hba := below_alloc wr (Obj.cells #[Value.int .i64 e.1, .slice q n c] 38)
      rw [hwb] at hg hba
      rw [hX] at hg
      have hbb2 := hb.trans (hba.mono hb.size)
      obtain ⟨t, ht⟩ : ∃ t : Int, e.1 = t := ⟨_, rfl⟩
      rw [ht] at c1 hst hg hek
      have keep : ∀ W, Below wb.heap.size wb W → (Below wb.heap.size wb W ∧ W.cell? ⟨X, 0, Option.none⟩ = some (.int .i64 t) ∧ W.cell? ⟨X, 1, Option.none⟩ = some (.slice q n c)) := fun W kk => by
        have g := (kk.block X (lt_of_block hg)).trans hg
        exact ⟨kk, by rw [cell_of_row _ _ _ _ _ _ g]; rfl, by rw [cell_of_row _ _ _ _ _ _ g]; rfl⟩
      obtain ⟨d, hd⟩ : ∃ d, ((x.take m).any fun a => edep a e) = d := ⟨_, rfl⟩
      have HEM := Lib.hid (HK.out.mk8)
      have K2 : Hid (∀ W, (Below wb.heap.size wb W ∧ W.cell? ⟨X, 0, Option.none⟩ = some (.int .i64 t) ∧ W.cell? ⟨X, 1, Option.none⟩ = some (.slice q n c)) → Calls Try.prog 47 #[.slice (some ⟨b0, o0, Option.none⟩) m cap, .agg #[.int .i64 t, .slice q n c]] W fun r w' => r = .returned (.bool (!d)) ∧ (Below wb.heap.size wb w' ∧ w'.cell? ⟨X, 0, Option.none⟩ = some (.int .i64 t) ∧ w'.cell? ⟨X, 1, Option.none⟩ = some (.slice q n c))) := Lib.hid fun W kk => by
        have kw := hbb2.trans (kk.1.mono hbb2.size)
        have h := free_o (x.take m) e _ _ W ((HS.out.kept kw).pre (by rw [HA.out]; exact hlt)) (hec W kw).2.2 (by rw [List.length_take, HA.out]; omega) (fun a ha => HEM.out a (List.mem_of_mem_take ha)) (HEM.out e (List.mem_of_getElem? he))
        rw [hd, ht] at h
        refine h.mono ?_
        rintro r w' ⟨rfl, hb⟩
        exact ⟨rfl, keep w' (kk.1.trans (hb.mono kk.1.size))⟩
      rw [hd] at hst
      have hs0 := keep wb.drew ⟨rfl, rfl, rfl, Nat.le_refl _, fun _ _ => rfl⟩
      have HWBE := Lib.hid (by rw [← ht]; exact hwb : wr.alloc (Obj.cells #[Value.int .i64 t, .slice q n c] 38) = wb)
      have HXE := Lib.hid hX
      have HB := Lib.hid hbb2
      have HST := Lib.hid hst
      have hml : (m : Int) < (A : Int) := by omega
      have hmc : m ≤ cap := by omega
      have hc0 : ¬ cap = 0 := by omega
      have ht0 : 0 ≤ t := hek.2.1
      have ht5 : t < 5 := hek.2.2
      have hd1 : decide (0 ≤ t) = true := decide_eq_true ht0
      have hd2 : decide (t < 64) = true := decide_eq_true (by omega)
      obtain ⟨a, ha⟩ : ∃ a, inm x m = a := ⟨_, rfl⟩
      rw [ha] at h32
      have HAE := Lib.hid ha
      rw [ha]
      clear hr hec he hst hek hX hwb hg hba hbb2 ht keep hd hb ha
      go_wp2_with fail
      rw [HWBE.out, HXE.out]
      clear c1 c2
      go_region_held3 (fun w' => (Below wb.heap.size wb w' ∧ w'.cell? ⟨X, 0, Option.none⟩ = some (.int .i64 t) ∧ w'.cell? ⟨X, 1, Option.none⟩ = some (.slice q n c)))
        (first | exact hs0 | assumption)
        (first
          | (go_at_call 47; refine (K2.out _ (by assumption)).mono ?_; rintro r w' ⟨rfl, hsA⟩))
      have HB2 := Lib.hid (HB.out.trans (hsA.1.mono HB.out.size))
      have c3 := hsA.2.1
      have c4 := hsA.2.2
      clear hsA hs0 K2
      cases d with
      | true =>
        clear c3 c4
        go_wp2
        go_roundw
        case rel => exact ⟨m + 1, by go_num, by omega, by rw [HST.out, HAE.out]; rfl, HB2.out⟩
        case measure => simp [intOf]; omega
      | false =>
        clear hd1 hd2
        rcases (show t = 0 ∨ t = 1 ∨ t = 2 ∨ t = 3 ∨ t = 4 by omega) with rfl | rfl | rfl | rfl | rfl
        all_goals
          clear ht0 ht5
          go_wp2
          go_roundw
          case rel => exact ⟨m + 1, by go_num, by omega, by rw [HST.out, HAE.out, if_neg (by simp), ← or_bits a _ h32 (by decide)]; rfl, HB2.out⟩
          case measure => simp [intOf]; omega
    · obtain rfl : m = A := by omega
      have HB := Lib.hid hb
      clear hb
      go_wp2
      go_ret
      exact ⟨by rw [HFIN.out]; rfl, HB.out⟩
end Go.Proofs.Ytcbpkagegdfidaa
