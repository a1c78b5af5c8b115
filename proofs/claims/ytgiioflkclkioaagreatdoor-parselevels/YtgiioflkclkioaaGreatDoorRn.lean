/- The reader's words: kinds, sorts, names, signs; a pair. -/
import Derived.Test.YtgiioflkclkioaaGreatDoorRp
set_option linter.unusedSimpArgs false
set_option linter.unusedVariables false
namespace Go.Proofs.YtgiioflkclkioaaGreatDoor
open Go.RowKit Ieee

theorem txt_ne {l m : List UInt8} (h : l ≠ m) : ((⟨l.toArray⟩ : ByteArray).toList == (⟨m.toArray⟩ : ByteArray).toList) = false := by simpa [ba_list] using h
theorem txt_nn {l m : List UInt8} (h : l ≠ m) : ((⟨l.toArray⟩ : ByteArray).toList != (⟨m.toArray⟩ : ByteArray).toList) = true := by simpa [ba_list] using h
theorem txt_eq {l m : List UInt8} (h : l = m) : ((⟨l.toArray⟩ : ByteArray).toList == (⟨m.toArray⟩ : ByteArray).toList) = true := by subst h; simp
theorem txt_en {l m : List UInt8} (h : l = m) : ((⟨l.toArray⟩ : ByteArray).toList != (⟨m.toArray⟩ : ByteArray).toList) = false := by subst h; simp

theorem kword_any (k : Nat) (hk : k < 17) (w : World) (hl : Lk w) : Calls Tryz.prog 182 #[.int .i64 (k : Int)] w fun e w' => e = .returned (.string ⟨(word k).toArray⟩) ∧ w = w' := by
  have hc := hl.kw k hk
  generalize (⟨(word k).toArray⟩ : ByteArray) = W at *
  have h1 : (k : Int) < 17 := by omega
  clear hl
  go_enter Tryz.func182, Tryz.ntmps182
  go_wp2
  go_ret
  exact ⟨rfl, rfl⟩
theorem sword_any (k : Nat) (hk : k < 6) (w : World) (hl : Lk w) : Calls Tryz.prog 140 #[.int .i64 (k : Int)] w fun e w' => e = .returned (.string ⟨(swd k).toArray⟩) ∧ w = w' := by
  have hc := hl.sw k hk
  generalize (⟨(swd k).toArray⟩ : ByteArray) = W at *
  have h1 : (k : Int) < 6 := by omega
  clear hl
  go_enter Tryz.func140, Tryz.ntmps140
  go_wp2
  go_ret
  exact ⟨rfl, rfl⟩
/-- What kindOf, sortOf answer. -/
def KoR : Option Nat → Value
  | some k => .tuple #[.int .i64 (k : Int), .bool true]
  | none => .tuple #[.int .i64 0, .bool false]
set_option maxRecDepth 100000 in
set_option maxHeartbeats 1600000 in
theorem kindOf_any (s : List UInt8) (w : World) (hl : Lk w) : Calls Tryz.prog 168 #[.string ⟨s.toArray⟩] w fun e w' => e = .returned (KoR (kindOf s)) ∧ w = w' := by
  have HW := Lib.hid (fun k hk => kword_any k hk w hl)
  obtain ⟨S, hS⟩ : ∃ S : ByteArray, (⟨s.toArray⟩ : ByteArray) = S := ⟨_, rfl⟩
  rw [hS]
  have HS := Lib.hid hS
  obtain ⟨R, hR⟩ : ∃ R, kindOf s = R := ⟨_, rfl⟩
  rw [hR]
  have HR := Lib.hid hR
  clear hl hS hR
  go_enter Tryz.func168, Tryz.ntmps168
  go_wp2
  go_loop [5] (fun i => ∃ k : Nat, k ≤ 17 ∧ i = .int .i64 (k : Int) ∧ ∀ j, j < k → 1 ≤ j → word j ≠ s) (fun i => 17 - (intOf i).toNat)
  case atStart => exact ⟨0, by omega, rfl, fun j hj _ => by omega⟩
  case round =>
    obtain ⟨k, hk, rfl, hno⟩ := hrel
    have HNO := Lib.hid hno
    clear hno
    by_cases hlt : k < 17
    · have hlt' : (k : Int) < 17 := by omega
      by_cases hk0 : k = 0
      · subst hk0
        clear hlt hlt'
        simp only [Int.cast_ofNat_Int]
        go_wp2
        go_round
        case rel => exact ⟨1, by omega, by go_num, fun j hj h1 => by omega⟩
        case measure => simp [intOf]
      · have hkn : ((k : Int) != 0) = true := by simp; omega
        by_cases he : word k = s
        · have hq := txt_eq he
          have HKW := Lib.hid (HW.out k hlt)
          rw [HS.out] at hq
          obtain ⟨W, hW⟩ : ∃ W : ByteArray, (⟨(word k).toArray⟩ : ByteArray) = W := ⟨_, rfl⟩
          rw [hW] at hq HKW
          have HRK : Hid (R = some k) := Lib.hid (by rw [← HR.out, ← he]; exact kindOf_word (by omega) hlt)
          clear hW he
          go_wp2_with fail
          refine HKW.out.mono ?_
          rintro e w' ⟨rfl, rfl⟩
          go_wp2
          rw [HRK.out]
          go_ret2
          exact ⟨rfl, rfl⟩
        · have hq := txt_ne he
          have HKW := Lib.hid (HW.out k hlt)
          rw [HS.out] at hq
          have HE := Lib.hid he
          obtain ⟨W, hW⟩ : ∃ W : ByteArray, (⟨(word k).toArray⟩ : ByteArray) = W := ⟨_, rfl⟩
          rw [hW] at hq HKW
          clear hW he
          go_wp2_with fail
          refine HKW.out.mono ?_
          rintro e w' ⟨rfl, rfl⟩
          go_wp2
          go_round
          case rel => exact ⟨k + 1, by omega, by go_num, fun j hj h1 => by
            by_cases hjk : j = k
            · subst hjk; exact HE.out
            · exact HNO.out j (by omega) h1⟩
          case measure => simp [intOf]; omega
    · have hk' : k = 17 := by omega
      subst hk'
      have HRK : Hid (R = none) := Lib.hid (by
        rw [← HR.out]
        cases h : kindOf s with
        | none => rfl
        | some j => have := kindOf_some h; exact absurd this.2.2 (HNO.out j this.2.1 this.1))
      go_wp2
      rw [HRK.out]
      go_ret2
      exact ⟨rfl, rfl⟩
set_option maxRecDepth 100000 in
set_option maxHeartbeats 1600000 in
theorem sortOf_any (s : List UInt8) (w : World) (hl : Lk w) : Calls Tryz.prog 105 #[.string ⟨s.toArray⟩] w fun e w' => e = .returned (KoR (sortOf s)) ∧ w = w' := by
  have HW := Lib.hid (fun k hk => sword_any k hk w hl)
  obtain ⟨S, hS⟩ : ∃ S : ByteArray, (⟨s.toArray⟩ : ByteArray) = S := ⟨_, rfl⟩
  rw [hS]
  have HS := Lib.hid hS
  obtain ⟨R, hR⟩ : ∃ R, sortOf s = R := ⟨_, rfl⟩
  rw [hR]
  have HR := Lib.hid hR
  clear hl hS hR
  go_enter Tryz.func105, Tryz.ntmps105
  go_wp2
  go_loop [5] (fun i => ∃ k : Nat, k ≤ 6 ∧ i = .int .i64 (k : Int) ∧ ∀ j, j < k → swd j ≠ s) (fun i => 6 - (intOf i).toNat)
  case atStart => exact ⟨0, by omega, rfl, fun j hj => by omega⟩
  case round =>
    obtain ⟨k, hk, rfl, hno⟩ := hrel
    have HNO := Lib.hid hno
    clear hno
    by_cases hlt : k < 6
    · have hlt' : (k : Int) < 6 := by omega
      by_cases he : swd k = s
      · have hq := txt_eq he
        have HKW := Lib.hid (HW.out k hlt)
        rw [HS.out] at hq
        obtain ⟨W, hW⟩ : ∃ W : ByteArray, (⟨(swd k).toArray⟩ : ByteArray) = W := ⟨_, rfl⟩
        rw [hW] at hq HKW
        have HRK : Hid (R = some k) := Lib.hid (by
          rw [← HR.out]
          cases h : sortOf s with
          | none => exact absurd he (sortOf_none h k hlt)
          | some j => have := sortOf_some h; rw [swd_inj j this.1 k hlt (by rw [this.2, he])])
        clear hW he
        go_wp2_with fail
        refine HKW.out.mono ?_
        rintro e w' ⟨rfl, rfl⟩
        go_wp2
        rw [HRK.out]
        go_ret2
        exact ⟨rfl, rfl⟩
      · have hq := txt_ne he
        have HKW := Lib.hid (HW.out k hlt)
        rw [HS.out] at hq
        have HE := Lib.hid he
        obtain ⟨W, hW⟩ : ∃ W : ByteArray, (⟨(swd k).toArray⟩ : ByteArray) = W := ⟨_, rfl⟩
        rw [hW] at hq HKW
        clear hW he
        go_wp2_with fail
        refine HKW.out.mono ?_
        rintro e w' ⟨rfl, rfl⟩
        go_wp2
        go_round
        case rel => exact ⟨k + 1, by omega, by go_num, fun j hj => by
          by_cases hjk : j = k
          · subst hjk; exact HE.out
          · exact HNO.out j (by omega)⟩
        case measure => simp [intOf]; omega
    · have hk' : k = 6 := by omega
      subst hk'
      have HRK : Hid (R = none) := Lib.hid (by
        rw [← HR.out]
        cases h : sortOf s with
        | none => rfl
        | some j => have := sortOf_some h; exact absurd this.2 (HNO.out j this.1))
      go_wp2
      rw [HRK.out]
      go_ret2
      exact ⟨rfl, rfl⟩
theorem KoR_fst (o : Option Nat) : ∃ k : Int, KoR o = .tuple #[.int .i64 k, .bool o.isSome] := by
  cases o with
  | none => exact ⟨_, rfl⟩
  | some k => exact ⟨_, rfl⟩
set_option maxRecDepth 100000 in
set_option maxHeartbeats 1600000 in
theorem isName_any (t : Tk) (w : World) (hl : Lk w) : Calls Tryz.prog 141 #[tv t] w fun e w' => e = .returned (.bool (isNm t)) ∧ Below w.heap.size w w' := by
  have HL := Lib.hid hl
  have hk := fun w' (hb : Below w.heap.size w w') => kindOf_any t.text w' (hl.on hb)
  have hs := fun w' (hb : Below w.heap.size w w') => sortOf_any t.text w' (hl.on hb)
  obtain ⟨k1, e1⟩ := KoR_fst (kindOf t.text)
  obtain ⟨k2, e2⟩ := KoR_fst (sortOf t.text)
  rw [e1] at hk
  rw [e2] at hs
  have HK := Lib.hid hk
  have HS := Lib.hid hs
  obtain ⟨c1, h1⟩ : ∃ c, ((t.kind : Int) == 1) = c := ⟨_, rfl⟩
  obtain ⟨c4, h4⟩ : ∃ c, ((⟨t.text.toArray⟩ : ByteArray).toList == [101, 108, 115, 101]) = c := ⟨_, rfl⟩
  obtain ⟨b1, g1⟩ : ∃ c, (kindOf t.text).isSome = c := ⟨_, rfl⟩
  obtain ⟨b2, g2⟩ : ∃ c, (sortOf t.text).isSome = c := ⟨_, rfl⟩
  have hN : isNm t = (c1 && !b1 && !b2 && !c4) := by
    rw [← h1, ← h4, ← g1, ← g2, ba_list]
    unfold isNm elseW
    congr 1
    congr 1
    · congr 1
      · rw [Bool.eq_iff_iff]; simp; omega
      · cases kindOf t.text <;> rfl
    · cases sortOf t.text <;> rfl
  rw [hN]
  rw [g1] at HK
  rw [g2] at HS
  clear hN g1 g2 hk hs hl
  unfold tv
  generalize (⟨t.text.toArray⟩ : ByteArray) = T at *
  cases c1 <;> cases b1 <;> cases b2 <;> cases c4
  all_goals
    go_enter Tryz.func141, Tryz.ntmps141
    go_wp2_with (first
      | (go_at_call 168; ((with_reducible refine (HK.out _ (below_alloc _ _)).mono ?_); rintro e w' ⟨rfl, rfl⟩))
      | (go_at_call 105; ((with_reducible refine (HS.out _ (below_alloc _ _)).mono ?_); rintro e w' ⟨rfl, rfl⟩)))
    go_ret
    exact ⟨rfl, below_alloc _ _⟩
set_option maxRecDepth 100000 in
set_option maxHeartbeats 1600000 in
theorem mustName_yes (b g : Nat) (t : Tk) (r : List Tk) (d : Nat) (w : World) (h : Rdr w b g (t :: r) d) (hr : r ≠ []) (hn : isNm t = true) : Calls Tryz.prog 108 #[.pointer (some ⟨b, 0, none⟩)] w fun e w' => e = .returned (.string ⟨t.text.toArray⟩) ∧ Rdr w' b g r d ∧ Kx (· = b) w w' := by
  have hfT := fldT
  have HN := Lib.hid (next_any b g t r d w h)
  have HI := Lib.hid (fun w' (hb : Below w.heap.size w w') => isName_any t w' ((let ⟨_, _, _, R⟩ := h; R.lk).on hb))
  have HT := Lib.hid (fun (w' : World) (hb' : Below w.heap.size w w') => take_any b g t r d w' (h.on hb') hr)
  rw [hn] at HI
  unfold tv at HN HT HI
  generalize (⟨t.text.toArray⟩ : ByteArray) = T at *
  clear h hn
  go_enter Tryz.func108, Tryz.ntmps108
  go_wp2_with fail
  refine HN.out.mono ?_
  rintro e w1 ⟨rfl, hb1⟩
  have HB1 := Lib.hid hb1
  clear hb1
  go_wp2_with fail
  refine (HI.out _ HB1.out).mono ?_
  rintro e w2 ⟨rfl, hb2⟩
  have HB2 := Lib.hid (below_trans HB1.out hb2)
  clear hb2
  go_wp2_with fail
  refine (HT.out _ HB2.out).mono ?_
  rintro e w3 ⟨rfl, hR, hk⟩
  have H2 := Lib.hid hR
  have H3 := Lib.hid hk
  clear hR hk
  go_wp2
  go_ret
  exact ⟨rfl, H2.out, (Kx.of HB2.out).tr H3.out⟩
set_option maxRecDepth 100000 in
set_option maxHeartbeats 1600000 in
theorem mustName_no (b g : Nat) (t : Tk) (r : List Tk) (d : Nat) (w : World) (h : Rdr w b g (t :: r) d) (hn : isNm t = false) : Calls Tryz.prog 108 #[.pointer (some ⟨b, 0, none⟩)] w fun e w' => e = pan t.pos 1 ∧ Below w.heap.size w w' := by
  have hfT := fldT
  have HN := Lib.hid (next_any b g t r d w h)
  have HI := Lib.hid (fun w' (hb : Below w.heap.size w w') => isName_any t w' ((let ⟨_, _, _, R⟩ := h; R.lk).on hb))
  have HF := Lib.hid (fun (w' : World) (hb' : Below w.heap.size w w') => fail_any b g t r d 1 w' (h.on hb'))
  simp only [Int.cast_ofNat_Int] at HF
  rw [hn] at HI
  unfold tv at HN HI
  unfold pan at HF ⊢
  generalize (⟨t.text.toArray⟩ : ByteArray) = T at *
  clear h hn
  go_enter Tryz.func108, Tryz.ntmps108
  go_wp2_with fail
  refine HN.out.mono ?_
  rintro e w1 ⟨rfl, hb1⟩
  have HB1 := Lib.hid hb1
  clear hb1
  go_wp2_with fail
  refine (HI.out _ HB1.out).mono ?_
  rintro e w2 ⟨rfl, hb2⟩
  have HB2 := Lib.hid (below_trans HB1.out hb2)
  clear hb2
  go_wp2_with fail
  refine (HF.out _ HB2.out).mono ?_
  rintro e w3 ⟨rfl, hb3⟩
  have HB3 := Lib.hid hb3
  clear hb3
  go_wp2
  exact ⟨rfl, rfl, below_trans HB2.out HB3.out⟩
/-- The name of what is done with one part. -/
def op1S (s : List UInt8) : List UInt8 := match opOne s with | some k => op1 k | none => []
theorem opOfOne_any (s : List UInt8) (w : World) : Calls Tryz.prog 223 #[.string ⟨s.toArray⟩] w fun e w' => e = .returned (.string ⟨(op1S s).toArray⟩) ∧ w = w' := by
  rcases opOne_cases s with ⟨h, h'⟩ | ⟨h, h'⟩ | ⟨h, h'⟩ | ⟨h, h'⟩ | ⟨n1, n2, n3, n4, h'⟩
  all_goals (unfold op1S; rw [h'])
  · subst h
    go_enter Tryz.func223, Tryz.ntmps223
    go_wp2
    go_ret
    exact ⟨rfl, rfl⟩
  · subst h
    go_enter Tryz.func223, Tryz.ntmps223
    go_wp2
    go_ret
    exact ⟨rfl, rfl⟩
  · subst h
    go_enter Tryz.func223, Tryz.ntmps223
    go_wp2
    go_ret
    exact ⟨rfl, rfl⟩
  · subst h
    go_enter Tryz.func223, Tryz.ntmps223
    go_wp2
    go_ret
    exact ⟨rfl, rfl⟩
  · have q1 := txt_ne n1
    have q2 := txt_ne n2
    have q3 := txt_ne n3
    have q4 := txt_ne n4
    rw [ba_list [45]] at q1
    rw [ba_list [126]] at q2
    rw [ba_list [33]] at q3
    rw [ba_list [35]] at q4
    generalize (⟨s.toArray⟩ : ByteArray) = S at *
    clear n1 n2 n3 n4 h'
    go_enter Tryz.func223, Tryz.ntmps223
    go_wp2
    go_ret
    exact ⟨rfl, rfl⟩
/-- Texts lie in a block, one behind the other. -/
def Txs (w : World) (g : Nat) (L : List (List UInt8)) : Prop := ∀ i s, L[i]? = some s → w.cell? ⟨g, i, none⟩ = some (.string ⟨s.toArray⟩)
theorem Txs.on {w w' : World} {g : Nat} {L : List (List UInt8)} (h : Txs w g L) (hb : Below w.heap.size w w') : Txs w' g L :=
  fun i s hs => (hb.cell (lt_of_cl (h i s hs))).trans (h i s hs)
/-- Where a text stands first. -/
def ixOf (L : List (List UInt8)) (s : List UInt8) : Int := if L.contains s then (L.idxOf s : Int) else -1
theorem ixOf_at {L : List (List UInt8)} {s : List UInt8} {k : Nat} (h : L[k]? = some s) (hno : ∀ j, j < k → L[j]? ≠ some s) : ixOf L s = k := by
  have hm : s ∈ L := List.mem_of_getElem? h
  have hc : L.contains s = true := by simpa using hm
  unfold ixOf
  rw [if_pos hc]
  congr 1
  have hl : L.idxOf s < L.length := List.idxOf_lt_length_of_mem hm
  have he : L[L.idxOf s]? = some s := by rw [List.getElem?_eq_getElem hl, List.getElem_idxOf hl]
  rcases Nat.lt_trichotomy (L.idxOf s) k with h1 | h1 | h1
  · exact absurd he (hno _ h1)
  · exact h1
  · exfalso
    have hk : k < L.length := (List.getElem?_eq_some_iff.1 h).1
    have := List.not_of_lt_findIdx (p := (· == s)) (xs := L) (i := k) h1
    rw [(List.getElem?_eq_some_iff.1 h).2] at this
    simp at this
theorem ixOf_no {L : List (List UInt8)} {s : List UInt8} (hno : ∀ j, j < L.length → L[j]? ≠ some s) : ixOf L s = -1 := by
  unfold ixOf
  rw [if_neg]
  intro hc
  have hm : s ∈ L := by simpa using hc
  obtain ⟨j, hj, he⟩ := List.mem_iff_getElem.1 hm
  exact hno j hj (by rw [List.getElem?_eq_getElem hj, he])
set_option maxRecDepth 100000 in
set_option maxHeartbeats 1600000 in
theorem index_any (L : List (List UInt8)) (s : List UInt8) (g c : Nat) (w : World) (hL : L.length ≤ 100) (hT : Txs w g L) : Calls Tryz.prog 119 #[.slice (some ⟨g, 0, none⟩) L.length c, .string ⟨s.toArray⟩] w fun e w' => e = .returned (.int .i64 (ixOf L s)) ∧ w = w' := by
  have HT := Lib.hid hT
  obtain ⟨S, hS⟩ : ∃ S : ByteArray, (⟨s.toArray⟩ : ByteArray) = S := ⟨_, rfl⟩
  rw [hS]
  have HS := Lib.hid hS
  obtain ⟨n, hn⟩ : ∃ n, L.length = n := ⟨_, rfl⟩
  rw [hn] at hL ⊢
  have HN := Lib.hid hn
  obtain ⟨R, hR⟩ : ∃ R, ixOf L s = R := ⟨_, rfl⟩
  rw [hR]
  have HR := Lib.hid hR
  clear hT hS hn hR
  go_enter Tryz.func119, Tryz.ntmps119
  go_wp2
  go_loop [8] (fun i => ∃ k : Nat, k ≤ n ∧ i = .int .i64 (k : Int) ∧ ∀ j, j < k → L[j]? ≠ some s) (fun i => n - (intOf i).toNat)
  case atStart => exact ⟨0, by omega, rfl, fun j hj => by omega⟩
  case round =>
    obtain ⟨k, hk, rfl, hno⟩ := hrel
    have HNO := Lib.hid hno
    clear hno
    by_cases hlt : k < n
    · obtain ⟨u, hu⟩ : ∃ u, L[k]? = some u := ⟨_, List.getElem?_eq_getElem (by rw [HN.out]; exact hlt)⟩
      have hc := HT.out k u hu
      have HU := Lib.hid hu
      clear hu
      by_cases he : s = u
      · have hq := txt_eq he
        rw [HS.out] at hq
        obtain ⟨W, hW⟩ : ∃ W : ByteArray, (⟨u.toArray⟩ : ByteArray) = W := ⟨_, rfl⟩
        rw [hW] at hq hc
        have HRK : Hid (R = k) := Lib.hid (by rw [← HR.out]; exact ixOf_at (by rw [he]; exact HU.out) HNO.out)
        clear hW he
        go_wp2
        rw [HRK.out]
        go_ret
        exact ⟨rfl, rfl⟩
      · have hq := txt_ne he
        have HE := Lib.hid he
        rw [HS.out] at hq
        obtain ⟨W, hW⟩ : ∃ W : ByteArray, (⟨u.toArray⟩ : ByteArray) = W := ⟨_, rfl⟩
        rw [hW] at hq hc
        clear hW he
        go_wp2
        go_round
        case rel => exact ⟨k + 1, by omega, by go_num, fun j hj => by
          by_cases hjk : j = k
          · subst hjk; rw [HU.out]; exact fun e => HE.out (by injection e with e; exact e.symm)
          · exact HNO.out j (by omega)⟩
        case measure => simp [intOf]; omega
    · have hk' : k = n := by omega
      subst hk'
      have HRK : Hid (R = -1) := Lib.hid (by rw [← HR.out]; exact ixOf_no (by rw [HN.out]; exact HNO.out))
      go_wp2
      rw [HRK.out]
      go_ret
      exact ⟨rfl, rfl⟩
theorem contains_any (L : List (List UInt8)) (s : List UInt8) (g c : Nat) (w : World) (hL : L.length ≤ 100) (hT : Txs w g L) : Calls Tryz.prog 75 #[.slice (some ⟨g, 0, none⟩) L.length c, .string ⟨s.toArray⟩] w fun e w' => e = .returned (.bool (L.contains s)) ∧ w = w' := by
  have HI := Lib.hid (index_any L s g c w hL hT)
  generalize (⟨s.toArray⟩ : ByteArray) = S at *
  generalize L.length = n at *
  clear hT
  cases h : L.contains s with
  | true =>
    have h1 : ixOf L s = (L.idxOf s : Int) := by unfold ixOf; rw [if_pos h]
    rw [h1] at HI
    generalize L.idxOf s = k at *
    clear h h1
    go_enter Tryz.func75, Tryz.ntmps75
    go_wp2_with (go_at_call 119; refine HI.out.mono ?_; rintro e w' ⟨rfl, rfl⟩)
    go_ret
    exact ⟨rfl, rfl⟩
  | false =>
    have h1 : ixOf L s = -1 := by unfold ixOf; rw [if_neg (by rw [h]; simp)]
    rw [h1] at HI
    clear h h1
    go_enter Tryz.func75, Tryz.ntmps75
    go_wp2_with (go_at_call 119; refine HI.out.mono ?_; rintro e w' ⟨rfl, rfl⟩)
    go_ret
    exact ⟨rfl, rfl⟩
theorem isNext_any (b g : Nat) (t : Tk) (r : List Tk) (d : Nat) (L : List (List UInt8)) (u c : Nat) (w : World) (h : Rdr w b g (t :: r) d) (hL : L.length ≤ 100) (hT : Txs w u L) : Calls Tryz.prog 214 #[.pointer (some ⟨b, 0, none⟩), .slice (some ⟨u, 0, none⟩) L.length c] w fun e w' => e = .returned (.bool (L.contains t.text)) ∧ Below w.heap.size w w' := by
  have hfT := fldT
  have HN := Lib.hid (next_any b g t r d w h)
  have HC := Lib.hid (fun w' (hb : Below w.heap.size w w') => contains_any L t.text u c w' hL (hT.on hb))
  unfold tv at HN
  generalize (⟨t.text.toArray⟩ : ByteArray) = T at *
  generalize L.length = n at *
  generalize L.contains t.text = B at *
  clear h hT
  go_enter Tryz.func214, Tryz.ntmps214
  go_wp2_with fail
  refine HN.out.mono ?_
  rintro e w1 ⟨rfl, hb1⟩
  have HB1 := Lib.hid hb1
  clear hb1
  go_wp2_with fail
  refine (HC.out _ HB1.out).mono ?_
  rintro e w2 ⟨rfl, rfl⟩
  go_wp2
  go_ret
  exact ⟨rfl, HB1.out⟩
theorem alloc_at {w : World} {n : Nat} (h : w.heap.size = n) (o : Obj) : (w.alloc o).heap[n]? = some o := by subst h; exact heap_alloc_new _ _
/-- An expression that is read: handed back, its parts in new blocks. -/
theorem two_px {w : World} {S : Nat → Prop} {k : Nat} {a b : Ex} {q r : Option Addr} {g : Nat} (hS : S g) (h : w.heap[g]? = some (.cells #[.string (opB a), .complex .f64 (nxB a) (nyB a), .string (nmB a), .slice q (npB a) (npB a), .string (opB b), .complex .f64 (nxB b) (nyB b), .string (nmB b), .slice r (npB b) (npB b)] 159 (0, 0))) (ha : Px w S a q) (hb : Px w S b r) : Px w S (.two k a b) (some ⟨g, 0, none⟩) :=
  ⟨g, q, r, rfl, hS, ⟨row_cell h, row_cell h, row_cell h, row_cell h⟩, ⟨row_cell h, row_cell h, row_cell h, row_cell h⟩, ha, hb⟩
set_option maxRecDepth 100000 in
set_option maxHeartbeats 1600000 in
theorem pair_any (k : Nat) (a b : Ex) (p q : Option Addr) (S : Nat → Prop) (w : World) (hS : ∀ g, S g → g < w.heap.size) (ha : Px w S a p) (hb : Px w S b q) : Calls Tryz.prog 215 #[.string ⟨(op2 k).toArray⟩, exv a p, exv b q] w fun e w' => ∃ r, e = .returned (exv (.two k a b) r) ∧ Px w' (fun g => S g ∨ w.heap.size ≤ g ∧ g < w'.heap.size) (.two k a b) r ∧ Below w.heap.size w w' := by
  have hst := store_cx
  have HA := Lib.hid (fun w' (k : Below w.heap.size w w') => ha.on (S' := fun g => S g ∨ w.heap.size ≤ g ∧ g < w'.heap.size) (Same.below k hS) (fun _ => .inl))
  have HB := Lib.hid (fun w' (k : Below w.heap.size w w') => hb.on (S' := fun g => S g ∨ w.heap.size ≤ g ∧ g < w'.heap.size) (Same.below k hS) (fun _ => .inl))
  unfold exv
  have e1 : opB (.two k a b) = ⟨(op2 k).toArray⟩ := rfl
  have e2 : nxB (.two k a b) = 0 := rfl
  have e3 : nyB (.two k a b) = 0 := rfl
  have e4 : nmB (.two k a b) = ⟨#[]⟩ := rfl
  have e5 : npB (.two k a b) = 2 := rfl
  rw [e1, e2, e3, e4, e5]
  have HT := Lib.hid (fun (w : World) (S : Nat → Prop) (g : Nat) hS h ha hb => two_px (w := w) (S := S) (k := k) (a := a) (b := b) (q := p) (r := q) (g := g) hS h ha hb)
  generalize (⟨(op2 k).toArray⟩ : ByteArray) = O at *
  generalize opB a = a0 at *
  generalize nxB a = a1 at *
  generalize nyB a = a2 at *
  generalize nmB a = a3 at *
  generalize npB a = a4 at *
  generalize opB b = b0 at *
  generalize nxB b = b1 at *
  generalize nyB b = b2 at *
  generalize nmB b = b3 at *
  generalize npB b = b4 at *
  clear ha hb e1 e2 e3 e4 e5
  go_enter Tryz.func215, Tryz.ntmps215
  go_wp2
  refine bodyPost_ret (v := .agg #[.string O, .complex .f64 0 0, .string ⟨#[]⟩, .slice (some ⟨w.heap.size + 1 + 1 + 1, 0, none⟩) 2 2]) (by simp [results, Tryz.results215, go_sem]) rfl ⟨_, rfl, ?_, ?_⟩
  · refine HT.out _ _ _ (.inr ⟨by omega, by simp⟩) ?_ (HA.out _ ?_) (HB.out _ ?_)
    · exact alloc_at (by simp) _
    all_goals exact (((below_alloc _ _).alloc (by simp) _).alloc (by simp; omega) _).alloc (by simp; omega) _
  · exact (((below_alloc _ _).alloc (by simp) _).alloc (by simp; omega) _).alloc (by simp; omega) _
/-- What a function of the reader that reads an expression does. -/
def PE (b g : Nat) (w : World) (d : Nat) (R : Rd Ex) (e : Ending) (w' : World) : Prop :=
  match R with
  | .ok (x, ts) => ∃ p, e = .returned (exv x p) ∧ Px w' (Nw w.heap.size w') x p ∧ Rdr w' b g ts d ∧ Kx (· = b) w w'
  | .error (p, c) => e = pan p c ∧ Kx (· = b) w w'
/-- How many a slice holds. -/
def slen : Option Value → Nat
  | some (.slice _ n _) => n
  | _ => 0
theorem Rdr.slen {w : World} {b g d : Nat} {ts : List Tk} (h : Rdr w b g ts d) : slen (w.cell? ⟨b, 0, none⟩) = ts.length := by
  obtain ⟨hg, o, cap, R⟩ := h
  rw [row_cell (o := 0) R.blk]; rfl
theorem Rdr.lt {w : World} {b g d : Nat} {ts : List Tk} (h : Rdr w b g ts d) : b < w.heap.size := by
  obtain ⟨hg, o, cap, R⟩ := h
  exact lt_of_row R.blk
theorem Rdr.lkk {w : World} {b g d : Nat} {ts : List Tk} (h : Rdr w b g ts d) : Lk w := by
  obtain ⟨hg, o, cap, R⟩ := h
  exact R.lk
end Go.Proofs.YtgiioflkclkioaaGreatDoor
