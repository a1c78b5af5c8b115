/- lex.numberToken, signSize: a number's token; how long a sign is. -/
import Derived.Test.YtgiioflkclkioaaGreatDoorBg
import Derived.Test.YtgiioflkclkioaaGreatDoorPp
set_option linter.unusedSimpArgs false
set_option linter.unusedVariables false
namespace Go.Proofs.YtgiioflkclkioaaGreatDoor
open Go.RowKit Ieee

theorem bcell3 {W w1 : World} (hb : Below W.heap.size W w1) : (∀ b o, b < W.heap.size → w1.cell? ⟨b, o, none⟩ = W.cell? ⟨b, o, none⟩) ∧ (∀ b o, b < W.heap.size → w1.frozen? ⟨b, o, none⟩ = W.frozen? ⟨b, o, none⟩) :=
  ⟨fun b o h => hb.cell (p := ⟨b, o, none⟩) h, fun b o h => hb.frozen (p := ⟨b, o, none⟩) h⟩
/-- A token as a value. -/
abbrev tv3 (t : Tk) : Value := .agg #[.int .i64 (t.kind : Int), .string ⟨t.text.toArray⟩, .complex .f64 (fl false (t.re : Int)) (fl false (t.im : Int)), .int .i64 (t.pos : Int)]
/-- What a text begins with, at the place k: a token, and 0; or nothing, and why. -/
def tat (m : List UInt8) (k : Nat) : Tk × Nat :=
  if m = [] then (⟨0, [], 0, 0, k⟩, 0) else
  match tok m with
  | .ok (kd, n, x, y) => (⟨kd, m.take n, x, y, k⟩, 0)
  | .error e => (⟨0, [], 0, 0, 0⟩, e)
/-- A token comes back, and a number; the memory below is as it was. -/
def Tok2 (w : World) (t : Tk) (n : Nat) (e : Ending) (w' : World) : Prop := e = .returned (.tuple #[tv3 t, .int .i64 (n : Int)]) ∧ Below w.heap.size w w'

theorem below_new3 {w w1 : World} {o : Obj} (h : Below (w.alloc o).heap.size (w.alloc o) w1) : Below w.heap.size w w1 := ((Below.refl _ _).alloc (Nat.le_refl _) _).trans (h.mono (by simp))
/-- A complex number stored: as any other value of one cell. -/
theorem store_cx3 (w : World) (a : Addr) (x y : Nat) (m : Mode) : (store a (.complex .f64 x y) m).run Tryz.prog w = stored Tryz.prog w a (.complex .f64 x y) m := run_store _ _ _ _ _ rfl

set_option maxRecDepth 100000 in
set_option maxHeartbeats 3200000 in
theorem numTok_yes (l : List UInt8) (hl : l.length ≤ 16384) (r i p : Nat) (hr : r ≤ 1048576) (hi : i ≤ 1048576) (h : l = txt r i) (w : World) (hb : Lb w) : Calls Tryz.prog 103 #[.string ⟨l.toArray⟩, .int .i64 (p : Int)] w (Tok2 w ⟨2, l, r, i, p⟩ 0) := by
  have hp := fun w (hb : Lb w) => parse_any l hl w hb
  have HL := Lib.hid h
  have HB := Lib.hid hb
  have HP := Lib.hid hp
  have hst := store_cx3
  clear h hb hp
  go_enter Tryz.func103, Tryz.ntmps103
  go_wp2_with fail
  refine (HP.out _ (HB.out.on ((Below.refl _ _).alloc (Nat.le_refl _) _))).mono ?_
  rintro e w1 ⟨ha, hbel⟩
  obtain ⟨hc, hf⟩ := bcell3 hbel
  have HB1 := Lib.hid hbel
  rcases ha with ⟨r', i', b1, b2, e1, u, rfl⟩ | ⟨hn, rfl⟩
  · obtain ⟨q1, q2⟩ := u r i (by unfold Bd; omega) (by unfold Bd; omega) HL.out
    subst q1 q2
    clear e1 u b1 b2 hbel
    go_wp2
    refine bodyPost_ret (v := .tuple #[tv3 ⟨2, l, r, i, p⟩, .int .i64 0]) (by simp [results, Tryz.results103, go_sem, hc, hf]) rfl ⟨rfl, ?_⟩
    exact ((((below_new3 HB1.out).setCell (Nat.le_refl _) _).setCell (Nat.le_refl _) _).setCell (Nat.le_refl _) _).setCell (Nat.le_refl _) _
  · exact absurd HL.out (hn r i (by unfold Bd; omega) (by unfold Bd; omega))

set_option maxRecDepth 100000 in
set_option maxHeartbeats 3200000 in
theorem numTok_no (l : List UInt8) (hl : l.length ≤ 16384) (p : Nat) (h : ∀ r i : Int, Bd 1048576 r → Bd 1048576 i → l ≠ txt r i) (w : World) (hb : Lb w) : Calls Tryz.prog 103 #[.string ⟨l.toArray⟩, .int .i64 (p : Int)] w (Tok2 w ⟨0, [], 0, 0, 0⟩ 6) := by
  have hp := fun w (hb : Lb w) => parse_any l hl w hb
  have HL := Lib.hid h
  have HB := Lib.hid hb
  have HP := Lib.hid hp
  have hst := store_cx3
  clear h hb hp
  go_enter Tryz.func103, Tryz.ntmps103
  go_wp2_with fail
  refine (HP.out _ (HB.out.on ((Below.refl _ _).alloc (Nat.le_refl _) _))).mono ?_
  rintro e w1 ⟨ha, hbel⟩
  obtain ⟨hc, hf⟩ := bcell3 hbel
  have HB1 := Lib.hid hbel
  rcases ha with ⟨r', i', b1, b2, e1, u, rfl⟩ | ⟨hn, rfl⟩
  · exact absurd e1 (HL.out r' i' b1 b2)
  · clear hbel hn
    go_wp2
    refine bodyPost_ret (v := .tuple #[.agg #[.int .i64 0, .string ⟨#[]⟩, .complex .f64 0 0, .int .i64 0], .int .i64 6]) (by simp [results, Tryz.results103, go_sem, hc, hf]) rfl ⟨?_, ?_⟩
    · unfold tv3
      simp [fl0]
    · exact ((((below_new3 HB1.out).setCell (Nat.le_refl _) _).setCell (Nat.le_refl _) _).setCell (Nat.le_refl _) _).setCell (Nat.le_refl _) _

theorem size_mk (l : List UInt8) : (⟨l.toArray⟩ : ByteArray).size = l.length := by show l.toArray.size = _; simp
theorem tat_num {c : UInt8} {r : List UInt8} (hc : isDi c = true) (hw : woAt (c :: r) (mlen (c :: r)) = false) (k : Nat) :
    tat (c :: r) k = if okNum (c :: r) = true then (⟨2, (c :: r).take (mlen (c :: r)), nre (c :: r), nim (c :: r), k⟩, 0) else (⟨0, [], 0, 0, 0⟩, 6) := by
  unfold tat tok
  simp only [if_neg (List.cons_ne_nil c r), if_pos hc, hw, Bool.false_eq_true, if_false]
  by_cases ho : okNum (c :: r) = true
  · simp only [if_pos ho]
    unfold nre nim
    by_cases hm : mlen (c :: r) = dlen (c :: r)
    · simp only [if_pos hm]
    · simp only [if_neg hm]
  · simp only [if_neg ho]
theorem tat_form {c : UInt8} {r : List UInt8} (hc : isDi c = true) (hw : woAt (c :: r) (mlen (c :: r)) = true) (k : Nat) : tat (c :: r) k = (⟨0, [], 0, 0, 0⟩, 1) := by
  unfold tat tok
  simp only [if_neg (List.cons_ne_nil c r), if_pos hc, hw, if_true]
/-- The token of a number that nothing of a word follows. -/
theorem numTok_any {c : UInt8} {r : List UInt8} (hc : isDi c = true) (hw : woAt (c :: r) (mlen (c :: r)) = false) (hl : (c :: r).length ≤ 16384) (k : Nat) (w : World) (hb : Lb w) :
    Calls Tryz.prog 103 #[.string ⟨((c :: r).take (mlen (c :: r))).toArray⟩, .int .i64 (k : Int)] w (Tok2 w (tat (c :: r) k).1 (tat (c :: r) k).2) := by
  rw [tat_num hc hw]
  have hlt : ((c :: r).take (mlen (c :: r))).length ≤ 16384 := Nat.le_trans (List.length_take_le' _ _) hl
  by_cases ho : okNum (c :: r) = true
  · simp only [if_pos ho]
    obtain ⟨h1, h2, h3⟩ := num_yes hc ho
    exact numTok_yes _ hlt _ _ k h2 h3 h1 w hb
  · simp only [if_neg ho]
    exact numTok_no _ hlt k (fun x y hx hy => num_no hc (by simpa using ho) x y hx hy) w hb

theorem si_iff (c : UInt8) : decide (0 ≤ Lib.indexByte [40, 41, 123, 125, 91, 93, 59, 44, 61, 33, 60, 43, 45, 42, 126, 35] c) = isSi c := by
  unfold isSi
  have key : ∀ l : List UInt8, decide (0 ≤ Lib.indexByte l c) = l.contains c := by
    intro l
    induction l with
    | nil => rfl
    | cons b l ih =>
      have hge := Lib.indexByte_ge l c
      unfold Lib.indexByte
      by_cases h : (b == c) = true
      · have : c = b := (beq_iff_eq.1 h).symm
        simp [this]
      · have hb : (c == b) = false := by
          rw [beq_eq_false_iff_ne]; intro e; apply h; simp [e]
        rw [if_neg h, List.contains_cons, hb, Bool.false_or, ← ih]
        by_cases h2 : (Lib.indexByte l c == -1) = true
        · rw [if_pos h2]
          have : Lib.indexByte l c = -1 := by simpa using h2
          simp [this]
        · rw [if_neg h2]
          have : Lib.indexByte l c ≠ -1 := by simpa using h2
          rw [decide_eq_decide]
          omega
  exact key _
/-- How long the sign is that a text begins with. -/
def sgl (m : List UInt8) : Nat := if m.take 2 = [61, 61] ∨ m.take 2 = [33, 61] then 2 else match m with | c :: _ => if isSi c then 1 else 0 | [] => 0
theorem signs_any (c : UInt8) (w : World) : Calls Tryz.prog 73 #[.string ⟨#[40, 41, 123, 125, 91, 93, 59, 44, 61, 33, 60, 43, 45, 42, 126, 35]⟩, .int .u8 (c.toNat : Int)] w fun e w' => ∃ x : Int, e = .returned (.int .i64 x) ∧ decide (0 ≤ x) = isSi c ∧ w = w' :=
  (Tryz.strings_IndexByte _ _ w).mono fun e w' ⟨he, hw⟩ => ⟨_, he, by
    rw [show ((c.toNat : Int).toNat.toUInt8) = c by simp]
    exact si_iff c, hw.symm⟩
set_option maxRecDepth 100000 in
set_option maxHeartbeats 3200000 in
theorem signSize_any (t : ByteArray) (ht : 0 < t.size) (w : World) : Calls Tryz.prog 104 #[.string t] w (Num w (sgl t.data.toList)) := by
  have hd := drop_at ht
  rw [List.drop_zero] at hd
  have hsi := signs_any t[0]
  have hsg : Hid (sgl t.data.toList = if t.data.toList.take 2 = [61, 61] ∨ t.data.toList.take 2 = [33, 61] then 2 else if isSi t[0] then 1 else 0) := Lib.hid (by unfold sgl; rw [hd])
  have p1 := prefix_any t ⟨#[61, 61]⟩ _ rfl
  have p2 := prefix_any t ⟨#[33, 61]⟩ _ rfl
  have q1 : Lib.hasPrefix t.data.toList (⟨#[61, 61]⟩ : ByteArray).data.toList = (t.data.toList.take 2 == [61, 61]) := pre_two _ _ _
  have q2 : Lib.hasPrefix t.data.toList (⟨#[33, 61]⟩ : ByteArray).data.toList = (t.data.toList.take 2 == [33, 61]) := pre_two _ _ _
  rw [q1] at p1
  rw [q2] at p2
  clear q1 q2 hd
  generalize t.data.toList = l at *
  generalize hn : sgl l = n at *
  clear hn
  cases h1 : (l.take 2 == [61, 61]) with
  | true =>
    have e1 : n = 2 := by rw [hsg.out, if_pos (.inl (by simpa using h1))]
    subst e1
    rw [h1] at p1
    clear hsg h1 p2 hsi
    go_enter Tryz.func104, Tryz.ntmps104
    go_wp2_with (go_at_call 53; refine (p1 _).mono ?_; rintro e w' ⟨rfl, rfl⟩)
    go_ret
    exact ⟨rfl, rfl⟩
  | false =>
    rw [h1] at p1
    cases h2 : (l.take 2 == [33, 61]) with
    | true =>
      have e1 : n = 2 := by rw [hsg.out, if_pos (.inr (by simpa using h2))]
      subst e1
      rw [h2] at p2
      clear hsg h1 h2 hsi
      go_enter Tryz.func104, Tryz.ntmps104
      go_wp2_with (first
        | (go_at_call 53; with_reducible refine (p1 _).mono ?_; rintro e w' ⟨rfl, rfl⟩)
        | (go_at_call 53; with_reducible refine (p2 _).mono ?_; rintro e w' ⟨rfl, rfl⟩))
      go_ret
      exact ⟨rfl, rfl⟩
    | false =>
      rw [h2] at p2
      have e1 : n = if isSi t[0] then 1 else 0 := by
        rw [hsg.out, if_neg]
        rintro (h | h)
        · rw [h] at h1; simp at h1
        · rw [h] at h2; simp at h2
      clear hsg h1 h2
      have HE := Lib.hid e1
      clear e1
      go_enter Tryz.func104, Tryz.ntmps104
      go_wp2_with (first
        | (go_at_call 53; with_reducible refine (p1 _).mono ?_; rintro e w' ⟨rfl, rfl⟩)
        | (go_at_call 53; with_reducible refine (p2 _).mono ?_; rintro e w' ⟨rfl, rfl⟩)
        | (go_at_call 73; refine Hid.out ?_))
      refine Lib.hid ?_
      refine (hsi _).mono ?_
      rintro e w' ⟨x, rfl, hx, rfl⟩
      cases hs : isSi t[0] with
      | true =>
        rw [hs] at hx HE
        clear hsi hs
        go_wp2
        go_ret
        exact Num.of (by rw [HE.out]; rfl)
      | false =>
        rw [hs] at hx HE
        clear hsi hs
        go_wp2
        go_ret
        exact Num.of (by rw [HE.out]; rfl)
end Go.Proofs.YtgiioflkclkioaaGreatDoor
