/- strings.LastIndexAny at "+-", longer texts (by the set of ASCII signs) and short ones (rune by rune). -/
import Derived.Test.YtgiioflkclkioaaGreatDoorLi
import Derived.Deep.WholeRow
import Derived.Deep.LoopGhost
set_option linter.unusedSimpArgs false
set_option linter.unusedVariables false
namespace Go.Proofs.YtgiioflkclkioaaGreatDoor
open Go.RowKit

theorem suse_any (n : Int) (w : World) : Calls Tryz.prog 192 #[.int .i64 n] w fun e w' => e = .returned (.bool (decide (8 < n))) ∧ w = w' := by
  go_enter Tryz.func192, Tryz.ntmps192
  go_wp2
  go_ret
  exact ⟨rfl, rfl⟩
abbrev sc : Array Value := Lib.setCells [43, 45]
set_option maxRecDepth 1000000 in
theorem zero74 (w : World) : (zeroValue 249).run Tryz.prog w = .ok (.agg (Array.replicate 256 (.bool false))) w := Tryz.zeroValue249 w
theorem asc2 : ∀ (j : Nat) b, (⟨#[43, 45]⟩ : ByteArray).data.toList[j]? = some b → b.toNat < 128 := by
  intro j b h
  have := List.mem_of_getElem? h
  simp only [List.mem_cons, List.not_mem_nil, or_false] at this
  rcases this with rfl | rfl <;> decide
set_option maxRecDepth 1000000 in
theorem zcells : Tryz.zeroCells249 = Array.replicate 256 (.bool false) := by kernel_rfl
theorem info74 : (Tryz.prog.info? 249).map (·.size) = some 256 := by kernel_rfl
theorem contains_sg (b : UInt8) : ([43, 45] : List UInt8).contains b = isSg b := by
  unfold isSg
  simp [List.contains, List.elem]
  cases h1 : b == 43 <;> cases h2 : b == 45 <;> simp_all

set_option maxRecDepth 1000000 in
set_option maxHeartbeats 8000000 in
theorem li_long (s : ByteArray) (h8 : 8 < s.size) (hs : s.size ≤ 16384) (w : World) : Calls Tryz.prog 178 #[.string s, .string ⟨#[43, 45]⟩] w (Li w s.data.toList) := by
  have hM := Tryz.strings_makeASCIISet zero74 ⟨#[43, 45]⟩ w (by decide) asc2
  have e1 : ((s.size : Int) == 1) = false := beq_eq_false_iff_ne.2 (by omega)
  have h8z : decide ((8 : Int) < (s.size : Int)) = true := decide_eq_true (by omega)
  have hsc : (storeCells ⟨w.heap.size + 1, 0, none⟩ sc.toList 0).run Tryz.prog ((w.alloc (.cells sc 249)).alloc (.cells (Array.replicate 256 (.bool false)) 249)) = .ok () ((w.alloc (.cells sc 249)).alloc (.cells sc 249)) := by
    have := run_storeCells_new (P := Tryz.prog) (w.alloc (.cells sc 249)) 249 (Array.replicate 256 (.bool false)) sc (by rw [Lib.setCells_size]; exact info74) (by rw [Lib.setCells_size, Array.size_replicate]) (Lib.setCells_one _)
    simpa using this
  have hsz := Lib.setCells_size [43, 45]
  have HC : Hid (∀ x : UInt8, ((w.alloc (.cells sc 249)).alloc (.cells sc 249)).cell? ⟨w.heap.size + 1, x.toNat, none⟩ = some (.bool (isSg x))) := Lib.hid (fun x => by
    rw [World.cell?_alloc_at _ _ _ _ (by simp), Lib.setCells_at, contains_sg])
  have KB : Hid (Below w.heap.size w ((w.alloc (.cells sc 249)).alloc (.cells sc 249))) := Lib.hid (below_trans' ((Below.refl _ _).alloc (Nat.le_refl _) _) ((Below.refl _ _).alloc (Nat.le_refl _) _))
  have hl : s.data.toList.length = s.size := (Lib.size_eq s).symm
  have HL := Lib.hid hl
  clear hl
  go_enter Tryz.func178, Tryz.ntmps178
  go_wp2_with (first
    | (go_at_call 192; refine (suse_any _ _).mono ?_; rintro e w' ⟨rfl, rfl⟩)
    | (go_at_call 193; refine hM.mono ?_; rintro e w' ⟨rfl, hw⟩; rw [hw]))
  rw [zcells, hsc]
  simp only [Result.andThen]
  rw [Oper.upon_skip]
  clear hM hsc
  generalize (w.alloc (.cells sc 249)).alloc (.cells sc 249) = W2 at *
  go_wp2
  go_loopw [8] (fun s8 wx => ∃ j : Nat, j ≤ s.size ∧ s8 = .int .i64 ((j : Int) - 1) ∧ wx = W2 ∧ Hid (NoSg (s.data.toList.drop j))) (fun s8 _ => (Lib.intOf s8 + 1).toNat)
  case atStart => exact ⟨s.size, Nat.le_refl _, rfl, rfl, Lib.hid (by rw [← HL.out, List.drop_length]; intro b hb; cases hb)⟩
  case round =>
    obtain ⟨j, hj, rfl, rfl, hno⟩ := hrel
    cases j with
    | zero =>
      have hz : (((0 : Nat) : Int) - 1) = -1 := by omega
      go_wp2
      go_ret
      exact ⟨_, rfl, sg_miss (fun _ => by simpa using hno.out), KB.out⟩
    | succ j =>
      have hz : (((j + 1 : Nat) : Int) - 1) = (j : Int) := by omega
      have hi : j < s.size := by omega
      have hiz : (j : Int) < (s.size : Int) := by omega
      have hj0 : (0 : Int) ≤ (j : Int) := by omega
      obtain ⟨x, hx⟩ : ∃ x : UInt8, s[j]'hi = x := ⟨_, rfl⟩
      have Hx : Hid (s.data.toList[j]? = some x) := Lib.hid (by rw [← hx]; exact Lib.data_getElem? s j hi)
      have hcx := HC.out x
      cases hin : isSg x <;> rw [hin] at hcx
      · go_wp2_with (go_at_call 194; refine (Tryz.asciiSet_contains _ x _ _ hcx).mono ?_; rintro e w' ⟨rfl, hw⟩; rw [hw])
        go_roundw
        case rel => exact ⟨j, by omega, by first | rfl | simp, trivial, Lib.hid (nosg_drop Hx.out hin hno.out)⟩
        case measure => simp [Lib.intOf]
      · go_wp2_with (go_at_call 194; refine (Tryz.asciiSet_contains _ x _ _ hcx).mono ?_; rintro e w' ⟨rfl, hw⟩; rw [hw])
        go_ret
        exact ⟨_, rfl, sg_hit Hx.out hin (fun _ => hno.out), KB.out⟩

theorem sg_dec {l : List UInt8} {j sz r : Nat} (hj : j < l.length) (h1 : 1 ≤ sz) (h2 : sz ≤ j + 1) (h : Asc l → r = (l.getD j 0).toNat ∧ sz = 1) (hx : 0 ≤ ixv r) (hn : Asc l → NoSg (l.drop (j + 1))) : SgPost l ((j + 1 - sz : Nat) : Int) := by
  refine ⟨by omega, fun _ => by omega, fun ha => ?_⟩
  obtain ⟨e1, e2⟩ := h ha
  subst e2
  refine .inr ⟨j, by omega, ⟨l.getD j 0, by simp [List.getD, List.getElem?_eq_getElem hj], ?_⟩, hn ha⟩
  rw [e1] at hx
  exact (ixv_sg _).1 hx
theorem sg_on {l : List UInt8} {j sz r : Nat} (hj : j < l.length) (h1 : 1 ≤ sz) (h2 : sz ≤ j + 1) (h : Asc l → r = (l.getD j 0).toNat ∧ sz = 1) (hx : ¬ 0 ≤ ixv r) (hn : Asc l → NoSg (l.drop (j + 1))) : Asc l → NoSg (l.drop (j + 1 - sz)) := by
  intro ha
  obtain ⟨e1, e2⟩ := h ha
  subst e2
  rw [show j + 1 - 1 = j by omega]
  refine nosg_drop (b := l.getD j 0) (by simp [List.getD, List.getElem?_eq_getElem hj]) ?_ (hn ha)
  rw [e1] at hx
  cases hq : isSg (l.getD j 0) with
  | false => rfl
  | true => exact absurd ((ixv_sg _).2 hq) hx

set_option maxRecDepth 1000000 in
set_option maxHeartbeats 8000000 in
theorem li_short (s : ByteArray) (h8 : s.size ≤ 8) (h1 : s.size ≠ 1) (w : World) (hu : Ut w) : Calls Tryz.prog 178 #[.string s, .string ⟨#[43, 45]⟩] w (Li w s.data.toList) := by
  have e1 : ((s.size : Int) == 1) = false := beq_eq_false_iff_ne.2 (by omega)
  have h8z : decide ((8 : Int) < (s.size : Int)) = false := decide_eq_false (by omega)
  have HL : Hid (s.data.toList.length = s.size) := Lib.hid (Lib.size_eq s).symm
  have HU := Lib.hid hu
  clear hu
  go_enter Tryz.func178, Tryz.ntmps178
  go_wp2_with (go_at_call 192; refine (suse_any _ _).mono ?_; rintro e w' ⟨rfl, rfl⟩)
  go_loopw [13] (fun s13 wx => ∃ j : Nat, j ≤ s.size ∧ s13 = .int .i64 (j : Int) ∧ Hid (Below w.heap.size w wx) ∧ Hid (Asc s.data.toList → NoSg (s.data.toList.drop j))) (fun s13 _ => (Lib.intOf s13).toNat)
  case atStart => exact ⟨s.size, Nat.le_refl _, rfl, Lib.hid (Below.refl _ _), Lib.hid (fun _ => by rw [← HL.out, List.drop_length]; intro b hb; cases hb)⟩
  case round =>
    obtain ⟨j, hj, rfl, hbel, hno⟩ := hrel
    cases j with
    | zero =>
      go_wp2
      go_ret
      exact ⟨_, rfl, sg_miss (fun ha => by simpa using hno.out ha), hbel.out⟩
    | succ j =>
      have hz : (0 : Int) < ((j + 1 : Nat) : Int) := by omega
      have hz2 : ((j + 1 : Nat) : Int) ≤ (s.size : Int) := by omega
      go_wp2_with (go_at_call 195; refine Hid.out ?_)
      refine Lib.hid ?_
      have hut := HU.out.on hbel.out
      refine (Tryz.utf8_DecodeLastRuneInString _ _ (by simp; omega) hut).mono ?_
      have et : (s.extract 0 (j + 1)).data.toList = s.data.toList.take (j + 1) := by rw [Lib.extract_data]; simp
      rw [et]
      have hne : s.data.toList.take (j + 1) ≠ [] := by
        intro h
        have := congrArg List.length h
        rw [List.length_take, HL.out, List.length_nil] at this
        omega
      have hlen : (s.data.toList.take (j + 1)).length = j + 1 := by rw [List.length_take, HL.out]; omega
      obtain ⟨d1, d2⟩ := last_size hne
      have d3 := Lib.decodeLastL_rune (s.data.toList.take (j + 1))
      have d4 : Asc s.data.toList → (Lib.decodeLastL (s.data.toList.take (j + 1))).1 = (s.data.toList.getD j 0).toNat ∧ (Lib.decodeLastL (s.data.toList.take (j + 1))).2 = 1 := by
        intro ha
        rw [last_asc hne (fun b hb => ha b (List.mem_of_mem_take hb)), hlen]
        refine ⟨?_, rfl⟩
        show (List.getD (List.take (j + 1) s.data.toList) (j + 1 - 1) 0).toNat = _
        rw [show j + 1 - 1 = j by omega]
        simp [List.getD]
      rw [hlen] at d2
      generalize (Lib.decodeLastL (s.data.toList.take (j + 1))).1 = r at *
      generalize (Lib.decodeLastL (s.data.toList.take (j + 1))).2 = sz at *
      rintro e w1 ⟨rfl, k1⟩
      have K1 := Lib.hid (below_trans' hbel.out k1)
      have D4 := Lib.hid d4
      clear et hne hlen d4 k1 hut
      have w3 : ((j + 1 : Nat) : Int) - (sz : Int) = ((j + 1 - sz : Nat) : Int) := by omega
      have w4 : (j : Int) + 1 - (sz : Int) = ((j + 1 - sz : Nat) : Int) := by omega
      by_cases hx : (0 : Int) ≤ ixv r
      · go_wp2_with (go_at_call 191; refine Hid.out ?_)
        refine Lib.hid ?_
        refine (ixr_any r d3 _).mono ?_
        rintro e w2 ⟨rfl, k2⟩
        have K2 := Lib.hid (below_trans' K1.out k2)
        clear k2
        go_wp2
        go_ret
        exact ⟨_, rfl, sg_dec (by rw [HL.out]; omega) d1 d2 D4.out hx hno.out, K2.out⟩
      · go_wp2_with (go_at_call 191; refine Hid.out ?_)
        refine Lib.hid ?_
        refine (ixr_any r d3 _).mono ?_
        rintro e w2 ⟨rfl, k2⟩
        have K2 := Lib.hid (below_trans' K1.out k2)
        clear k2
        go_wp2
        go_roundw
        case rel => exact ⟨j + 1 - sz, by omega, by first | rfl | simp, K2, Lib.hid (sg_on (by rw [HL.out]; omega) d1 d2 D4.out (by omega) hno.out)⟩
        case measure => simp [Lib.intOf]; omega
end Go.Proofs.YtgiioflkclkioaaGreatDoor
