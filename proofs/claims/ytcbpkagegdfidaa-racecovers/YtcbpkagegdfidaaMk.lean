/- The law's Marks, touches; slices.Clone of touches; append of touches. -/
import Derived.Test.YtcbpkagegdfidaaDp
import Derived.Maps.AppendAt
import Derived.OwnWalk
set_option linter.unusedSimpArgs false
set_option linter.unusedVariables false
namespace Go.Proofs.Ytcbpkagegdfidaa
open Go.RowKit

/-- A touch's cells. -/
def tc (x : Int × Bool) : List Value := [.int .i8 x.1, .bool x.2]
/-- Touches lie from a place on. -/
def RowT (w : World) (b o : Nat) (l : List (Int × Bool)) : Prop := ∀ i x, l[i]? = some x → w.cell? ⟨b, o + i * 2, Option.none⟩ = some (.int .i8 x.1) ∧ w.cell? ⟨b, o + i * 2 + 1, Option.none⟩ = some (.bool x.2)
/-- A slice of touches. -/
def TcS (w : World) (v : Value) (l : List (Int × Bool)) : Prop := (v = .slice Option.none 0 0 ∧ l = []) ∨ ∃ a cap, v = .slice (some a) l.length cap ∧ l.length ≤ cap ∧ cap ≤ maxLen ∧ (l ≠ [] → ∃ b o, a = ⟨b, o, Option.none⟩ ∧ b < w.heap.size ∧ RowT w b o l)
theorem RowT.kept {w w' : World} {b o : Nat} {l : List (Int × Bool)} (h : RowT w b o l) (hb : b < w.heap.size) (k : Below w.heap.size w w') : RowT w' b o l :=
  fun i x hx => ⟨(k.cell (p := ⟨b, _, Option.none⟩) hb).trans (h i x hx).1, (k.cell (p := ⟨b, _, Option.none⟩) hb).trans (h i x hx).2⟩
theorem TcS.kept {w w' : World} {v : Value} {l : List (Int × Bool)} (h : TcS w v l) (k : Below w.heap.size w w') : TcS w' v l := by
  rcases h with h | ⟨a, cap, h1, h2, h3, h4⟩
  · exact .inl h
  · refine .inr ⟨a, cap, h1, h2, h3, fun hl => ?_⟩
    obtain ⟨b, o, hp, hb, hr⟩ := h4 hl
    exact ⟨b, o, hp, Nat.lt_of_lt_of_le hb k.size, hr.kept hb k⟩
theorem tcs_len (l : List (Int × Bool)) : (l.flatMap tc).length = l.length * 2 := by
  induction l with
  | nil => rfl
  | cons x l ih => simp [tc, ih]; omega
theorem tcs_at : ∀ (l : List (Int × Bool)) (i c : Nat) (x : Int × Bool), l[i]? = some x → c < 2 → (l.flatMap tc)[i * 2 + c]? = (tc x)[c]?
  | [], i, c, x, h, _ => by simp at h
  | y :: l, 0, c, x, h, hc => by
    simp only [List.getElem?_cons_zero, Option.some.injEq] at h
    subst h
    rw [List.flatMap_cons, List.getElem?_append_left (by simpa [tc] using hc)]
    simp
  | y :: l, i + 1, c, x, h, hc => by
    rw [List.flatMap_cons, List.getElem?_append_right (by simp [tc]; omega)]
    have := tcs_at l i c x (by simpa using h) hc
    rw [← this]
    congr 1
    simp [tc]; omega
theorem tcs_one (l : List (Int × Bool)) : ∀ u ∈ l.flatMap tc, u.oneCell' = true := by
  intro u hu
  obtain ⟨x, _, h⟩ := List.mem_flatMap.1 hu
  simp only [tc, List.mem_cons, List.not_mem_nil, or_false] at h
  rcases h with rfl | rfl <;> rfl
theorem RowT.flat {w : World} {b o : Nat} {l : List (Int × Bool)} (h : RowT w b o l) : ∀ (j : Nat) u, (l.flatMap tc)[j]? = some u → w.cell? ⟨b, o + j, Option.none⟩ = some u := by
  intro j u hu
  have hj : j < l.length * 2 := by rw [← tcs_len]; exact (List.getElem?_eq_some_iff.1 hu).1
  have hx : l[j / 2]? = some (l[j / 2]'(by omega)) := List.getElem?_eq_getElem _
  generalize l[j / 2]'(by omega) = x at hx
  have g := h (j / 2) x hx
  rcases Nat.mod_two_eq_zero_or_one j with hm | hm
  · have := tcs_at l (j / 2) 0 x hx (by omega)
    rw [show j / 2 * 2 + 0 = j by omega, hu] at this
    rw [show o + j = o + j / 2 * 2 by omega, g.1, this]; rfl
  · have := tcs_at l (j / 2) 1 x hx (by omega)
    rw [show j / 2 * 2 + 1 = j by omega, hu] at this
    rw [show o + j = o + j / 2 * 2 + 1 by omega, g.2, this]; rfl
theorem rowT_of_flat {w : World} {b o : Nat} {l : List (Int × Bool)} (h : ∀ (j : Nat), j < l.length * 2 → w.cell? ⟨b, o + j, Option.none⟩ = (l.flatMap tc)[j]?) : RowT w b o l := by
  intro i x hx
  have hi := (List.getElem?_eq_some_iff.1 hx).1
  have a := tcs_at l i 0 x hx (by omega)
  have c := tcs_at l i 1 x hx (by omega)
  refine ⟨?_, ?_⟩
  · rw [h (i * 2) (by omega), show i * 2 = i * 2 + 0 from rfl, a]; rfl
  · rw [Nat.add_assoc, h (i * 2 + 1) (by omega), c]; rfl
theorem add_lit (b o j : Nat) : (⟨b, o, Option.none⟩ : Addr).add j = ⟨b, o + j, Option.none⟩ := by unfold Addr.add; split <;> simp_all
theorem lt_of_block {w : World} {g : Nat} {o : Obj} (h : w.heap[g]? = some o) : g < w.heap.size := by
  rcases Nat.lt_or_ge g w.heap.size with h' | h'
  · exact h'
  · rw [Array.getElem?_eq_none h'] at h; cases h
/-- A row of the call's own is a slice of marks, of touches. -/
theorem mks_of_own {w : World} {base : Nat} {v : Value} {l : List (Int × Bool)} (h : w.ownsRow base 50 2 v l.length (l.flatMap mc)) : MkS w v l := by
  have h0 := h
  rcases h.2 with ⟨rfl, hn⟩ | ⟨g, cap, cur, rfl, hbg, hg, hn, hm, hs, ht⟩
  · obtain rfl : l = [] := List.eq_nil_of_length_eq_zero hn
    exact MkS.nil w
  · exact ⟨_, cap, rfl, hn, hm, .inr ⟨g, 0, rfl, lt_of_block hg, row_of_flat fun j hj => by rw [Nat.zero_add]; exact h0.cellAt j hj⟩⟩
theorem tcs_of_own {w : World} {base : Nat} {v : Value} {l : List (Int × Bool)} (h : w.ownsRow base 72 2 v l.length (l.flatMap tc)) : TcS w v l := by
  have h0 := h
  rcases h.2 with ⟨rfl, hn⟩ | ⟨g, cap, cur, rfl, hbg, hg, hn, hm, hs, ht⟩
  · obtain rfl : l = [] := List.eq_nil_of_length_eq_zero hn
    exact .inl ⟨rfl, rfl⟩
  · exact .inr ⟨_, cap, rfl, hn, hm, fun _ => ⟨g, 0, rfl, lt_of_block hg, rowT_of_flat fun j hj => by rw [Nat.zero_add]; exact h0.cellAt j hj⟩⟩
theorem mk_info : ∃ i0, Try.prog.info? 50 = some i0 ∧ i0.zero = some (.agg #[.int .i64 0, .bool false]) ∧ i0.size = 2 ∧ i0.bytes = 16 := by
  have h : (Try.prog.info? 50).map (fun i => (i.zero, i.size, i.bytes)) = some (some (.agg #[.int .i64 0, .bool false]), 2, 16) := by kernel_rfl
  cases hq : Try.prog.info? 50 with
  | none => rw [hq] at h; cases h
  | some i =>
    rw [hq] at h
    simp only [Option.map_some, Option.some.injEq, Prod.mk.injEq] at h
    exact ⟨i, rfl, h.1, h.2.1, h.2.2⟩
theorem tc_info : ∃ i0, Try.prog.info? 72 = some i0 ∧ i0.zero = some (.agg #[.int .i8 0, .bool false]) ∧ i0.size = 2 ∧ i0.bytes = 2 := by
  have h : (Try.prog.info? 72).map (fun i => (i.zero, i.size, i.bytes)) = some (some (.agg #[.int .i8 0, .bool false]), 2, 2) := by kernel_rfl
  cases hq : Try.prog.info? 72 with
  | none => rw [hq] at h; cases h
  | some i =>
    rw [hq] at h
    simp only [Option.map_some, Option.some.injEq, Prod.mk.injEq] at h
    exact ⟨i, rfl, h.1, h.2.1, h.2.2⟩

/-- An append whose run is known. -/
theorem wpList_app {P : Program} {w : World} {ops : Array Oper} {rest : List Oper} {o : Oper} {a : Act} {Q : Exit → Act → World → Prop} (hgd : o.guard = Option.none) (s x : Operand) (t : TypeId)
    (ho : o.op = .call { callee := .builtin .append, args := #[s, x], argTypes := #[t, t] }) (v u v' : Value) (w' : World) (hs : a.eval s = v) (hx : a.eval x = u)
    (hr : ∀ ty, (Builtin.append_ #[t, t] ty #[v, u]).run P w = .ok v' w') (h : wpList P ops Q rest (a.put o.dst v') w') : wpList P ops Q (o :: rest) a w := by
  refine wpList_plain hgd fun K hK => ?_
  unfold Oper.wp execOp
  simp only [ho, resolve, invoke, builtin, Sem.run_bind, Sem.run_pure, Result.andThen_ok, List.map_toArray, List.map_cons, List.map_nil, hs, hx, hr]
  exact hK _ _ h

/-- A mark appended to a row of the call's own. -/
theorem app_mk (w : World) (base : Nat) (v : Value) (l : List (Int × Bool)) (x : Int × Bool) (hown : w.ownsRow base 50 2 v l.length (l.flatMap mc)) (hl : l.length ≤ 1000) (hb : base ≤ w.heap.size) (a : Addr) (h0 : w.cell? (a.add 0) = some (.int .i64 x.1)) (h1 : w.cell? (a.add 1) = some (.bool x.2)) :
    ∃ v' w', (∀ ty, (Builtin.append_ #[36, 36] ty #[v, .slice (some a) 1 1]).run Try.prog w = .ok v' w') ∧ w'.ownsRow base 50 2 v' (l ++ [x]).length ((l ++ [x]).flatMap mc) ∧ w.grownBy w' v.ownBlock := by
  obtain ⟨i0, hi, hz, hs, hby⟩ := mk_info
  have hn : ∀ j u, (mc x)[j]? = some u → w.cell? (a.add j) = some u := by
    intro j u hj
    match j with
    | 0 => simp [mc] at hj; rw [← hj]; exact h0
    | 1 => simp [mc] at hj; rw [← hj]; exact h1
    | j + 2 => simp [mc] at hj
  have key := fun ty => run_append_own_at (P := Try.prog) w base 36 ty 50 i0 _ 2 16 Try.underlying36 hi hz hs hby rfl (by omega) v l.length (l.flatMap mc) hown a 1 1 (mc x) rfl hn (mc_one x) (by unfold maxLen; omega) (by omega) hb
  obtain ⟨v', w', hr, ho, hg, _, _⟩ := key 0
  refine ⟨v', w', fun ty => ?_, by simpa [mc] using ho, hg⟩
  obtain ⟨v2, w2, hr2, _⟩ := key ty
  exact hr

/-- Touches appended to a row of the call's own. -/
theorem app_tc (w : World) (base : Nat) (v u : Value) (l k : List (Int × Bool)) (hown : w.ownsRow base 72 2 v l.length (l.flatMap tc)) (hl : l.length ≤ 1000) (hk : k.length ≤ 1000) (hb : base ≤ w.heap.size) (hu : TcS w u k) :
    ∃ v' w', (∀ ty, (Builtin.append_ #[52, 52] ty #[v, u]).run Try.prog w = .ok v' w') ∧ w'.ownsRow base 72 2 v' (l ++ k).length ((l ++ k).flatMap tc) ∧ w.grownBy w' v.ownBlock := by
  obtain ⟨i0, hi, hz, hs, hby⟩ := tc_info
  rcases hu with ⟨rfl, rfl⟩ | ⟨a, cap, rfl, h2, h3, h4⟩
  · exact ⟨v, w, fun ty => run_append_owned_none (P := Try.prog) w base 52 ty 72 i0 2 Try.underlying52 hi v l.length (l.flatMap tc) hown, by simpa using hown, ⟨rfl, rfl, rfl, Nat.le_refl _, fun _ _ _ => rfl⟩⟩
  · skip
    have hn : ∀ j u, (k.flatMap tc)[j]? = some u → w.cell? (a.add j) = some u := by
      intro j u hj
      have hne : k ≠ [] := by rintro rfl; simp at hj
      obtain ⟨b, o, e, hb, hr⟩ := h4 hne
      subst e
      rw [add_lit]
      exact hr.flat j u hj
    have key := fun ty => run_append_own_at (P := Try.prog) w base 52 ty 72 i0 _ 2 2 Try.underlying52 hi hz hs hby rfl (by omega) v l.length (l.flatMap tc) hown a k.length cap (k.flatMap tc) (tcs_len k) hn (tcs_one k) (by unfold maxLen; omega) (by omega) hb
    obtain ⟨v', w', hr, ho, hg, _, _⟩ := key 0
    exact ⟨v', w', fun ty => hr, by simpa using ho, hg⟩
theorem smo_snoc (l : List (Int × Bool)) (x : Int × Bool) (o : Int) : smo (l ++ [x]) o = (smo l o || x.1 == o) := by simp [smo]
theorem wro_snoc (l : List (Int × Bool)) (x : Int × Bool) (o : Int) : wro (l ++ [x]) o = (wro l o || (x.1 == o && x.2)) := by simp [wro]
theorem take_snoc {l : List (Int × Bool)} {j : Nat} {x : Int × Bool} (h : l[j]? = some x) : l.take (j + 1) = l.take j ++ [x] := by rw [List.take_add_one, h]; rfl
theorem TcS.one {w : World} {p : Option Addr} {n cap j : Nat} {l : List (Int × Bool)} {x : Int × Bool} (h : TcS w (.slice p n cap) l) (hx : l[j]? = some x) :
    ∃ b o, p = some ⟨b, o, Option.none⟩ ∧ b < w.heap.size ∧ ∀ W, Below w.heap.size w W → W.cell? ⟨b, o + j * 2, Option.none⟩ = some (.int .i8 x.1) ∧ W.cell? ⟨b, o + j * 2 + 1, Option.none⟩ = some (.bool x.2) := by
  rcases h with ⟨_, e⟩ | ⟨a, k, e, _, _, h⟩
  · rw [e] at hx; simp at hx
  · obtain ⟨b, o, rfl, hb, hr⟩ := h (by rintro rfl; simp at hx)
    simp only [Value.slice.injEq] at e
    exact ⟨b, o, e.1, hb, fun W k => hr.kept hb k j x hx⟩
theorem TcS.form {w : World} {v : Value} {l : List (Int × Bool)} (h : TcS w v l) : ∃ p cap, v = .slice p l.length cap ∧ l.length ≤ cap := by
  rcases h with ⟨rfl, rfl⟩ | ⟨a, cap, rfl, h, _⟩
  · exact ⟨_, 0, rfl, Nat.le_refl _⟩
  · exact ⟨_, cap, rfl, h⟩
set_option maxHeartbeats 2000000 in
/-- The law's Marks: the touches as marks. -/
theorem marks_any (l : List (Int × Bool)) (v : Value) (w : World) (hs : TcS w v l) (hl : l.length ≤ 1000) (hsm : sml l) : Calls Try.prog 24 #[v] w fun e w' => ∃ v', e = .returned v' ∧ MkS w' v' l ∧ Below w.heap.size w w' := by
  obtain ⟨p, cap, rfl, hcap⟩ := hs.form
  obtain ⟨A, hA⟩ : ∃ A, l.length = A := ⟨_, rfl⟩
  rw [hA] at hs hl hcap ⊢
  have HS := Lib.hid hs
  have HA := Lib.hid hA
  have HSM := Lib.hid hsm
  clear hs hA hsm
  go_enter Try.func24, Try.ntmps24
  go_wp2
  go_loopw [3, 8] (fun s3 s8 wr => ∃ (j : Nat), s8 = .int .i64 (j : Int) ∧ j ≤ A ∧ wr.ownsRow w.heap.size 50 2 s3 (l.take j).length ((l.take j).flatMap mc) ∧ Below w.heap.size w wr) (fun _ s _ => A - (intOf s).toNat)
  case atStart => exact ⟨0, rfl, by omega, by simpa using World.ownsRow_nil _ _ _ _, Below.refl _ _⟩
  case round =>
    obtain ⟨j, rfl, hj, ho, hb⟩ := hrel
    have HO := Lib.hid ho
    have HB := Lib.hid hb
    clear ho hb
    by_cases hlt : j < A
    · obtain ⟨x, hx⟩ : ∃ x, l[j]? = some x := ⟨_, List.getElem?_eq_getElem (by rw [HA.out]; exact hlt)⟩
      obtain ⟨b, q, rfl, hbb, hc⟩ := HS.out.one hx
      obtain ⟨c0, c1⟩ := hc wr HB.out
      have hxs := HSM.out x (List.mem_of_getElem? hx)
      have hwx : IntKind.i64.wrap x.1 = x.1 := by rw [IntKind.wrap_i64]; omega
      have HX := Lib.hid hx
      clear hx hc hxs
      have hg2 := heap_alloc_new (wr.alloc (Obj.cells #[Value.int IntKind.i8 x.1, Value.bool x.2] 72)) (Obj.cells #[Value.int IntKind.i64 x.1, Value.bool x.2] 50)
      rw [show (wr.alloc (Obj.cells #[Value.int IntKind.i8 x.1, Value.bool x.2] 72)).heap.size = wr.heap.size + 1 by simp] at hg2
      have hlt2 : (l.take j).length ≤ 1000 := by rw [List.length_take]; omega
      have hwb := HB.out.size
      obtain ⟨v', w', hr, ho', hgr⟩ := app_mk ((wr.alloc (Obj.cells #[Value.int IntKind.i8 x.1, Value.bool x.2] 72)).alloc (Obj.cells #[Value.int IntKind.i64 x.1, Value.bool x.2] 50)) w.heap.size u3 (l.take j) x ((HO.out.alloc _).alloc _) hlt2 (by simp; omega) ⟨wr.heap.size + 1, 0, Option.none⟩
        (by rw [add_lit, cell_of_row _ _ _ _ _ _ hg2]; rfl) (by rw [add_lit, cell_of_row _ _ _ _ _ _ hg2]; rfl)
      have HO' : Hid (w'.ownsRow w.heap.size 50 2 v' (l.take (j + 1)).length ((l.take (j + 1)).flatMap mc)) := Lib.hid (by rw [take_snoc HX.out]; exact ho')
      have HB' : Hid (Below w.heap.size w w') := Lib.hid (((HB.out.alloc hwb _).alloc (by simp; omega) _).grown hgr (by simp; omega) (fun k hk => (HO.out.lt k hk).1))
      clear hg2 hlt2 ho' hgr
      go_wp2_with (at_builtin; refine wpList_app rfl (.tmp 12) (.tmp 19) 36 rfl _ _ v' w' rfl rfl hr ?_)
      go_wp2
      go_roundw
      case rel => exact ⟨j + 1, by go_num, by omega, HO'.out, HB'.out⟩
      case measure => simp [intOf]; omega
    · obtain rfl : j = A := by omega
      go_wp2
      go_ret
      have ho := HO.out
      rw [List.take_of_length_le (by rw [HA.out]; exact Nat.le_refl _)] at ho
      exact ⟨_, rfl, mks_of_own ho, HB.out⟩
end Go.Proofs.Ytcbpkagegdfidaa
