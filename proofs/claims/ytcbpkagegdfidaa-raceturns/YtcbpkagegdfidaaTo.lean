/- event.together: a list of its own of the objects' marks, one of each. -/
import Derived.Test.YtcbpkagegdfidaaCg
import Derived.Test.YtcbpkagegdfidaaSh
import Derived.Lib.OwnBridge
set_option linter.unusedSimpArgs false
set_option linter.unusedVariables false
namespace Go.Proofs.Ytcbpkagegdfidaa
open Go.RowKit

theorem mc_len (x : Int × Bool) : (mc x).length = 2 := rfl
theorem mc_one (x : Int × Bool) : ∀ v ∈ mc x, v.oneCell' = true := by
  intro v hv
  simp only [mc, List.mem_cons, List.not_mem_nil, or_false] at hv
  rcases hv with rfl | rfl <;> rfl
theorem mcs_len (l : List (Int × Bool)) : (l.flatMap mc).length = l.length * 2 := by
  induction l with
  | nil => rfl
  | cons x l ih => simp [mc, ih]; omega
theorem mcs_at : ∀ (l : List (Int × Bool)) (i c : Nat) (x : Int × Bool), l[i]? = some x → c < 2 → (l.flatMap mc)[i * 2 + c]? = (mc x)[c]?
  | [], i, c, x, h, _ => by simp at h
  | y :: l, 0, c, x, h, hc => by
    simp only [List.getElem?_cons_zero, Option.some.injEq] at h
    subst h
    rw [List.flatMap_cons, List.getElem?_append_left (by simpa [mc] using hc)]
    simp
  | y :: l, i + 1, c, x, h, hc => by
    rw [List.flatMap_cons, List.getElem?_append_right (by simp [mc]; omega)]
    have := mcs_at l i c x (by simpa using h) hc
    rw [← this]
    congr 1
    simp [mc]; omega
theorem mcs_one (l : List (Int × Bool)) : ∀ u ∈ l.flatMap mc, u.oneCell' = true := by
  intro u hu
  obtain ⟨x, _, h⟩ := List.mem_flatMap.1 hu
  exact mc_one x u h
/-- The cells of a row, one behind the other. -/
theorem Row.flat {w : World} {b o : Nat} {l : List (Int × Bool)} (h : Row w b o l) : ∀ (j : Nat) u, (l.flatMap mc)[j]? = some u → w.cell? ⟨b, o + j, Option.none⟩ = some u := by
  intro j u hu
  have hj : j < l.length * 2 := by rw [← mcs_len]; exact (List.getElem?_eq_some_iff.1 hu).1
  have hx : l[j / 2]? = some (l[j / 2]'(by omega)) := List.getElem?_eq_getElem _
  generalize l[j / 2]'(by omega) = x at hx
  have g := h (j / 2) x hx
  rcases Nat.mod_two_eq_zero_or_one j with hm | hm
  · have := mcs_at l (j / 2) 0 x hx (by omega)
    rw [show j / 2 * 2 + 0 = j by omega, hu] at this
    rw [show o + j = o + j / 2 * 2 by omega, g.1, this]; rfl
  · have := mcs_at l (j / 2) 1 x hx (by omega)
    rw [show j / 2 * 2 + 1 = j by omega, hu] at this
    rw [show o + j = o + j / 2 * 2 + 1 by omega, g.2, this]; rfl
theorem row_of_flat {w : World} {b o : Nat} {l : List (Int × Bool)} (h : ∀ (j : Nat), j < l.length * 2 → w.cell? ⟨b, o + j, Option.none⟩ = (l.flatMap mc)[j]?) : Row w b o l := by
  intro i x hx
  have hi := (List.getElem?_eq_some_iff.1 hx).1
  have a := mcs_at l i 0 x hx (by omega)
  have c := mcs_at l i 1 x hx (by omega)
  refine ⟨?_, ?_⟩
  · rw [h (i * 2) (by omega), show i * 2 = i * 2 + 0 from rfl, a]; rfl
  · rw [Nat.add_assoc, h (i * 2 + 1) (by omega), c]; rfl
theorem holdsK_of {w : World} {b o : Nat} {l : List (Int × Bool)} (h : Row w b o l) (hf : Rwf w b o (l.length * 2)) : Go.Sort.HoldsK mc 2 w b o l.toArray := by
  intro j hj
  rw [Go.Sort.size_flatK, List.size_toArray] at hj
  refine ⟨?_, hf j hj⟩
  rw [Go.Sort.get_flatK _ _ _ _ (by simpa using hj)]
  have hx : l[j / 2]? = some (l[j / 2]'(by omega)) := List.getElem?_eq_getElem _
  have he : l.toArray[j / 2]! = l[j / 2]'(by omega) := by simp [getElem!_pos, show j / 2 < l.length by omega]
  rw [he]
  generalize l[j / 2]'(by omega) = x at hx
  have g := h (j / 2) x hx
  rcases Nat.mod_two_eq_zero_or_one j with hm | hm
  · rw [show o + j = o + j / 2 * 2 by omega, g.1, hm]; rfl
  · rw [show o + j = o + j / 2 * 2 + 1 by omega, g.2, hm]; rfl
theorem row_of_holdsK {w : World} {b o : Nat} {d : Array (Int × Bool)} (h : Go.Sort.HoldsK mc 2 w b o d) : Row w b o d.toList ∧ Rwf w b o (d.size * 2) := by
  refine ⟨fun i x hx => ?_, fun j hj => ?_⟩
  · have hi : i < d.size := by have := (List.getElem?_eq_some_iff.1 hx).1; simpa using this
    have he : d[i]! = x := by
      rw [Array.getElem?_toList] at hx
      rw [getElem!_pos d i hi]
      rw [Array.getElem?_eq_getElem hi] at hx
      exact Option.some.inj hx
    have g0 := (Go.Sort.HoldsK.cell h hi (c := 0) (by omega)).1
    have g1 := (Go.Sort.HoldsK.cell h hi (c := 1) (by omega)).1
    rw [he] at g0 g1
    exact ⟨g0, g1⟩
  · have hi : j / 2 < d.size := by omega
    have g := (Go.Sort.HoldsK.cell h hi (c := j % 2) (by omega)).2
    rw [show o + j / 2 * 2 + j % 2 = o + j by omega] at g
    exact g
theorem ltOf_cmpM : ltOf cmpM = ltM := by
  funext x y
  exact ltM_of x y
theorem stdd_of {d : Array (Int × Bool)} {n : Nat} (hn : d.size = n) (h : Go.Sort.SortedIn ltM 0 n d) : stdd d.toList := by
  rw [stdd, List.pairwise_iff_getElem]
  intro i j hi hj hij
  have hi' : i < d.size := by simpa using hi
  have hj' : j < d.size := by simpa using hj
  have := h i j (Nat.zero_le _) hij (by omega)
  rw [getElem!_pos d j hj', getElem!_pos d i hi'] at this
  simpa using this
theorem perm_of {l : List (Int × Bool)} {d : Array (Int × Bool)} (h : Go.Sort.PermIn 0 l.toArray.size l.toArray d) : d.toList.Perm l := by
  obtain ⟨hsz, _, hp⟩ := h
  have e1 : d.extract 0 l.toArray.size = d := by rw [← hsz]; exact Array.extract_size
  rw [e1, Array.extract_size] at hp
  exact hp
theorem below_sort {B : Nat} {w : World} {g n : Nat} {d : Array (Int × Bool)} {os : Array Obj} (hB : B ≤ g) (hg : B ≤ w.heap.size) : Below B w (sortWorldK mc 2 w g 0 n d os) := by
  have h := Go.Lib.below_putRow (enc := id) (q := n) (d := Go.Sort.flatK mc 2 d) (Below.refl B w) hB
  refine h.trans ⟨rfl, rfl, rfl, by simp [Go.Sort.grow, sortWorldK, Go.Sort.putRowK], fun k hk => ?_⟩
  have hk' : k < (Go.Sort.putRow id (Go.Sort.ahead w n) g 0 (Go.Sort.flatK mc 2 d)).heap.size := by
    have := h.size; omega
  simp [sortWorldK, Go.Sort.grow, Go.Sort.putRowK, Array.getElem?_append, hk']
  intro hh; omega

/-- slices.Clone of marks. -/
theorem clone_mk (l : List (Int × Bool)) (v : Value) (w : World) (hs : MkS w v l) (hl : l.length ≤ 1000) : Calls Try.prog 28 #[v] w fun e w' =>
    ∃ v', e = .returned v' ∧ Below w.heap.size w w' ∧ ((v' = .slice Option.none 0 0 ∧ l = []) ∨ ∃ g cap, v' = .slice (some ⟨g, 0, Option.none⟩) l.length cap ∧ w.heap.size ≤ g ∧ g < w'.heap.size ∧ l.length ≤ cap ∧ cap ≤ maxLen ∧ Row w' g 0 l ∧ Rwf w' g 0 (l.length * 2)) := by
  obtain ⟨p, cap, rfl, h2, h3, h4⟩ := hs
  rcases h4 with ⟨rfl, rfl⟩ | ⟨b, o, rfl, hb, hr⟩
  · refine (Try.slices_Clone_nil_f28 0 cap w).mono ?_
    rintro e w' ⟨rfl, rfl⟩
    exact ⟨_, rfl, Below.refl _ _, .inl ⟨rfl, rfl⟩⟩
  · have hi : ∃ i0, Try.prog.info? 50 = some i0 ∧ i0.zero = some (.agg #[.int .i64 0, .bool false]) ∧ i0.size = 2 ∧ i0.bytes = 16 := by
      have h : (Try.prog.info? 50).map (fun i => (i.zero, i.size, i.bytes)) = some (some (.agg #[.int .i64 0, .bool false]), 2, 16) := by kernel_rfl
      cases hq : Try.prog.info? 50 with
      | none => rw [hq] at h; cases h
      | some i =>
        rw [hq] at h
        simp only [Option.map_some, Option.some.injEq, Prod.mk.injEq] at h
        exact ⟨i, rfl, h.1, h.2.1, h.2.2⟩
    obtain ⟨i0, hi0, hz, hsz, hby⟩ := hi
    refine (Try.slices_Clone_f28 i0 _ 2 16 hi0 hz hsz hby rfl (by omega) Try.sizeOf50 b o l.length cap (l.flatMap mc) w (mcs_len l) (by omega) (by omega) hr.flat (mcs_one l)).mono ?_
    rintro e w' ⟨v', rfl, hown, hnn, hbel⟩
    refine ⟨v', rfl, hbel, .inr ?_⟩
    rcases hown.2 with ⟨e0, _⟩ | ⟨g, cap', cur, rfl, hbg, hg, hn, hm, hs, ht⟩
    · exact absurd e0 hnn
    · have hlt : g < w'.heap.size := by
        rcases Nat.lt_or_ge g w'.heap.size with h' | h'
        · exact h'
        · rw [Array.getElem?_eq_none h'] at hg; cases hg
      refine ⟨g, cap', rfl, hbg, hlt, hn, hm, row_of_flat fun j hj => ?_, fun j hj => ?_⟩
      · rw [Nat.zero_add]; exact hown.cellAt j hj
      · rw [Nat.zero_add]; exact hown.frozenAt j

set_option maxHeartbeats 1000000 in
/-- slices.SortFunc of marks by their order. -/
theorem sort_mk (l : List (Int × Bool)) (g cap : Nat) (w : World) (hr : Row w g 0 l) (hf : Rwf w g 0 (l.length * 2)) (hg : g < w.heap.size) (hl : l.length ≤ 1000) (B : Nat) (hB : B ≤ g) :
    Calls Try.prog 43 #[.slice (some ⟨g, 0, Option.none⟩) l.length cap, .func (.func 44) #[] #[]] w fun e w' => e = .returned (.tuple #[]) ∧ ∃ k : List (Int × Bool), k.Perm l ∧ stdd k ∧ Row w' g 0 k ∧ Rwf w' g 0 (l.length * 2) ∧ g < w'.heap.size ∧ Below B w w' := by
  have eg : ∀ args w, (callFunc 44 args).run Try.prog w = .ok (.enter 44 args) w := enters_of Try.func44 (by kernel_rfl) rfl
  have hcmp : CmpLays Try.prog 44 #[] mc 2 cmpM g 0 l.toArray.size w := fun _ _ _ _ x y => order_any x y _
  have hH := holdsK_of hr hf
  have hcon := Try.slices_SortFunc 2 Try.isAgg50 Try.sizeOf50 mc mc_len mc_one cmpM (by rw [ltOf_cmpM]; exact swoM) 44 #[] g 0 cap l.toArray w eg hcmp hH hg (by simp; omega)
  rw [List.size_toArray] at hcon
  refine hcon.mono ?_
  rintro e w' ⟨rfl, d', n, os, hp, hs, rfl⟩
  rw [ltOf_cmpM] at hs
  have hp' : Go.Sort.PermIn 0 l.toArray.size l.toArray d' := by rw [List.size_toArray]; exact hp
  have hsz : d'.size = l.length := by have := hp'.1; simpa using this
  have hK := holdsK_sortWorldK_c mc 2 w g 0 l.toArray d' n os hH hg (by simpa using hsz)
  have hrw := row_of_holdsK hK
  refine ⟨rfl, d'.toList, perm_of hp', stdd_of hsz hs, hrw.1, by rw [← hsz]; exact hrw.2, ?_, below_sort hB (by omega)⟩
  exact Nat.lt_of_lt_of_le hg (size_sortWorldK_c mc 2 w g 0 n d' os)
end Go.Proofs.Ytcbpkagegdfidaa
