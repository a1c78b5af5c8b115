/- Texts joined; what a text holds: for the laws over two and three texts. -/
import Derived.Test.YtphjjlmjggjodaaDoorWa
import Derived.Lib.IndexAny
set_option linter.unusedSimpArgs false
set_option linter.unusedVariables false
namespace Go.Proofs.YtphjjlmjggjodaaDoor
open Go.RowKit Ieee

/-- Two texts as one. -/
def catb (A B : ByteArray) : ByteArray := ⟨(A.data.toList ++ B.data.toList).toArray⟩
theorem catb_list (A B : ByteArray) : (catb A B).data.toList = A.data.toList ++ B.data.toList := rfl
theorem catb_size (A B : ByteArray) : (catb A B).size = A.size + B.size := by rw [← size_len, catb_list, List.length_append, size_len, size_len]
theorem catb_run (A B : ByteArray) (hA : A.size ≤ 20000) (hB : B.size ≤ 20000) (w : World) : (Op.stringOp .add A B).run Tryd.prog w = .ok (.string (catb A B)) w := by
  have h := cat_big A.data.toList B.data.toList (by rw [size_len]; exact hA) (by rw [size_len]; exact hB) w
  exact h

theorem index_has (B : List UInt8) : ∀ A : List UInt8, 0 ≤ Lib.index (A ++ 47 :: 47 :: B) [47, 47]
  | [] => by simp [Lib.index, List.isPrefixOf]
  | b :: A => by
    have ih := index_has B A
    rw [List.cons_append, Lib.index]
    split
    · omega
    · rw [if_neg (by rw [beq_iff_eq]; omega)]
      omega
theorem contains_no {l : List UInt8} (h : Lib.contains l [47, 47] = false) : ∀ A B, l ≠ A ++ 47 :: 47 :: B := by
  rintro A B rfl
  have := index_has B A
  unfold Lib.contains at h
  simp at h
  omega
theorem no_feed {l : List UInt8} (h : decide (0 ≤ Lib.indexByte l 10) = false) : (10 : UInt8) ∉ l := by
  rw [← Lib.contains_iff_indexByte] at h
  intro hm
  rw [List.contains_iff_mem.2 hm] at h
  cases h

/-- What is the same of two answers. -/
def Same (r s : Except (Nat × Nat) (List Tk)) : Prop := (∃ p q c, r = .error (p, c) ∧ s = .error (q, c)) ∨ ∃ ts us, r = .ok ts ∧ s = .ok us ∧ us.map core = ts.map core
theorem core_mv (d : Nat) (ts : List Tk) : (ts.map (mv d)).map core = ts.map core := by
  rw [List.map_map]; rfl
theorem same_cont (r : Except (Nat × Nat) (List Tk)) (b : List UInt8) (q d e : Nat) : Same (cont r (spl b (q + d))) (cont r (spl b (q + e))) := by
  have h1 := spl_move d b.length b q (Nat.le_refl _)
  have h2 := spl_move e b.length b q (Nat.le_refl _)
  rw [h1, h2]
  cases r with
  | error p => exact .inl ⟨p.1, p.1, p.2, rfl, rfl⟩
  | ok ts =>
    cases spl b q with
    | error p => exact .inl ⟨p.1 + d, p.1 + e, p.2, rfl, rfl⟩
    | ok us =>
      refine .inr ⟨_, _, rfl, rfl, ?_⟩
      simp only [List.map_append, core_mv]
theorem same_notes (a n b : List UInt8) (ha : ∀ A B, a ≠ A ++ 47 :: 47 :: B) (hn : (10 : UInt8) ∉ n) :
    Same (spl (a ++ [32, 47, 47] ++ n ++ [10] ++ b) 0) (spl (a ++ [10] ++ b) 0) := by
  have e1 : a ++ [32, 47, 47] ++ n ++ [10] ++ b = a ++ 32 :: (47 :: 47 :: (n ++ 10 :: b)) := by simp
  have e2 : a ++ [10] ++ b = a ++ 10 :: b := by simp
  rw [e1, e2, spl_join (by decide) _ _ a 0 (Nat.le_refl _) (.inr ha), spl_join (by decide) _ _ a 0 (Nat.le_refl _) (.inl rfl), spl_note n b _ hn, spl_blank (by decide)]
  exact same_cont _ b _ _ _
theorem spl_code {l : List UInt8} {p c : Nat} (h : spl l 0 = .error (p, c)) : p < l.length ∧ (c = 1 ∨ c = 6) := by
  have := spl_places l l.length l 0 (Nat.le_refl _) (Nat.zero_le _) rfl
  rw [h] at this
  exact this
theorem spl_count {l : List UInt8} {ts : List Tk} (h : spl l 0 = .ok ts) : ts.length ≤ l.length + 1 := by
  have := spl_places l l.length l 0 (Nat.le_refl _) (Nat.zero_le _) rfl
  rw [h] at this
  exact places_len _ _ _ this
/-- The library's variable that tells the machine's reach holds a number. -/
def Mx (w : World) : Prop := ∃ m : Int, w.cell? ⟨0, 0, Option.none⟩ = some (.int .i64 m)
theorem Mx.on {w w' : World} (h : Mx w) (hb : Below w.heap.size w w') : Mx w' := by
  obtain ⟨m, hm⟩ := h
  exact ⟨m, (hb.cell (p := ⟨0, 0, Option.none⟩) (World.block_lt_of_cell? w _ hm)).trans hm⟩
theorem contains_any (A : ByteArray) (hA : A.size ≤ 20000) (b : Bool) (h : Lib.contains A.data.toList [47, 47] = b) (w : World) (hm : Mx w) : Calls Tryd.prog 13 #[.string A, .string ⟨#[47, 47]⟩] w fun e w' => e = .returned (.bool b) ∧ w = w' := by
  obtain ⟨m, hm⟩ := hm
  exact (Tryd.strings_Contains A ⟨#[47, 47]⟩ m w (by omega) hm).mono fun e w' ⟨he, hw⟩ => ⟨by rw [he]; show Ending.returned (.bool (Lib.contains A.data.toList [47, 47])) = _; rw [h], hw.symm⟩
theorem feed_any (A : ByteArray) (b : Bool) (h : decide (0 ≤ Lib.indexByte A.data.toList 10) = b) (w : World) : Calls Tryd.prog 13 #[.string A, .string ⟨#[10]⟩] w fun e w' => e = .returned (.bool b) ∧ w = w' :=
  (Tryd.strings_Contains_one A 10 w).mono fun e w' ⟨he, hw⟩ => ⟨by rw [he, h], hw.symm⟩
end Go.Proofs.YtphjjlmjggjodaaDoor
