/- strings.Builder: its contracts over texts; what keeps it, what it keeps. -/
import Derived.Test.YtmomdcnlhljhcaaDoorEp
import Derived.Test.YtmomdcnlhljhcaaDoorSb
set_option linter.unusedSimpArgs false
set_option linter.unusedVariables false
namespace Go.Proofs.YtmomdcnlhljhcaaDoor
open Go.RowKit Ieee

/-- A builder in block b, made from block B on, that holds a text. -/
def Bu (B b : Nat) (l : List UInt8) (w : World) : Prop := Lib.IsBuilderF 57 5 B b (Lib.byteCells l) w
theorem ownF_of_block {B e size : Nat} {v : Value} {n : Nat} {xs : List Value} {w w' : World} (h : w.ownsRowF B e size v n xs) (hk : ∀ g, v.ownBlock = some g → ∀ o, w.heap[g]? = some o → (∃ c fz, o = .cells c e fz) → w'.heap[g]? = some o) : w'.ownsRowF B e size v n xs := by
  refine ⟨h.1, ?_⟩
  rcases h.2 with h | ⟨g, cap, cur, fz, rfl, h2, h3, h4⟩
  · exact .inl h
  · exact .inr ⟨g, cap, cur, fz, rfl, h2, hk g rfl _ h3 ⟨_, _, rfl⟩, h4⟩
theorem own_of_block {B e size : Nat} {v : Value} {n : Nat} {xs : List Value} {w w' : World} (h : w.ownsRow B e size v n xs) (hk : ∀ g, v.ownBlock = some g → ∀ o, w.heap[g]? = some o → (∃ c fz, o = .cells c e fz) → w'.heap[g]? = some o) : w'.ownsRow B e size v n xs := by
  refine ⟨h.1, ?_⟩
  rcases h.2 with h | ⟨g, cap, cur, rfl, h2, h3, h4⟩
  · exact .inl h
  · exact .inr ⟨g, cap, cur, rfl, h2, hk g rfl _ h3 ⟨_, _, rfl⟩, h4⟩
theorem lt_of_block {w : World} {g : Nat} {o : Obj} (h : w.heap[g]? = some o) : g < w.heap.size := by
  rcases Nat.lt_or_ge g w.heap.size with h' | h'
  · exact h'
  · simp [Array.getElem?_eq_none h'] at h
/-- A builder's cells and its row stay: a step that keeps them keeps it. -/
theorem builder_keep {B b : Nat} {p : Value} {bs : List Value} {w w' : World} (h : Lib.BuilderAtF 57 5 B b p bs w) (hk : ∀ (g : Nat) (c : Array Value) (t : TypeId) (fz : Nat × Nat), t = 57 ∨ t = 5 → w.heap[g]? = some (Obj.cells c t fz) → w'.heap[g]? = some (Obj.cells c t fz)) : Lib.BuilderAtF 57 5 B b p bs w' := by
  obtain ⟨h1, v, h2, h3, h4⟩ := h
  refine ⟨h1, v, hk b _ _ _ (.inl rfl) h2, ownF_of_block h3 ?_, h4⟩
  rintro g _ o ho ⟨c, fz, rfl⟩
  exact hk g _ _ _ (.inr rfl) ho
theorem Bu.keep {B b : Nat} {l : List UInt8} {w w' : World} (h : Bu B b l w) (hk : ∀ (g : Nat) (c : Array Value) (t : TypeId) (fz : Nat × Nat), t = 57 ∨ t = 5 → w.heap[g]? = some (Obj.cells c t fz) → w'.heap[g]? = some (Obj.cells c t fz)) : Bu B b l w' :=
  h.elim (fun x => .inl (builder_keep x hk)) (fun x => .inr (builder_keep x hk))
theorem Bu.below {B b : Nat} {l : List UInt8} {w w' : World} (h : Bu B b l w) (hb : Below w.heap.size w w') : Bu B b l w' :=
  h.keep fun g c t fz _ ho => (hb.block g (lt_of_block ho)).trans ho
theorem Bu.others {B b t : Nat} {l : List UInt8} {w w' : World} (h : Bu B b l w) (hb : Lib.OthersKept t none w w') (h1 : t ≠ 57) (h2 : t ≠ 5) : Bu B b l w' :=
  h.keep fun g c u fz hu ho => hb g _ ho (by simp) (fun c' fz' => by intro he; injection he with _ e2; rcases hu with rfl | rfl <;> simp_all)
theorem Bu.alloc {B b : Nat} {l : List UInt8} {w : World} (h : Bu B b l w) (o : Obj) : Bu B b l (w.alloc o) := h.below (below_alloc w o)
theorem Bu.lt {B b : Nat} {l : List UInt8} {w : World} (h : Bu B b l w) : b < w.heap.size := h.elim (fun x => x.lt) (fun x => x.lt)
/-- A row of another type than bytes' stays under a write to the builder. -/
theorem own_others {B t b size : Nat} {v : Value} {n : Nat} {xs : List Value} {w w' : World} (h : w.ownsRow B t size v n xs) (hk : Lib.OthersKept 5 (some b) w w') (ht : t ≠ 5) (hb : b < B) : w'.ownsRow B t size v n xs := by
  refine own_of_block h ?_
  rintro g hg o ho ⟨c, fz, rfl⟩
  refine hk g _ ho ?_ (fun c' fz' => by intro he; injection he with _ e2; exact ht e2)
  intro he
  have := (h.lt g hg).1
  injection he with he
  omega
theorem own_below {w w2 : World} {base : Nat} {e : TypeId} {size : Nat} {v : Value} {n : Nat} {xs : List Value} (h : w.ownsRow base e size v n xs) (hb : Below w.heap.size w w2) : w2.ownsRow base e size v n xs :=
  h.kept (row := none) ⟨hb.os, hb.tape, hb.output, hb.size, fun k hk _ => hb.block k hk⟩ (by cases hv : v.ownBlock <;> simp)
theorem own_pop {B e size g cap m : Nat} {xs ys : List Value} {w : World} (h : w.ownsRow B e size (.slice (some ⟨g, 0, none⟩) (m + 1) cap) (m + 1) (xs ++ ys)) (hl : xs.length = m * size) : w.ownsRow B e size (.slice (some ⟨g, 0, none⟩) m cap) m xs := by
  refine ⟨hl, .inr ?_⟩
  rcases h.2 with ⟨h, _⟩ | ⟨g', cap', cur, he, h2, h3, h4, h5, h6, h7⟩
  · cases h
  · injection he with e1 e2 e3
    injection e1 with e1
    injection e1 with e1
    subst e1 e3
    refine ⟨g, cap, cur, rfl, h2, h3, by omega, h5, h6, ?_⟩
    have := congrArg (List.take (m * size)) h7
    rw [List.take_take, List.take_append_of_le_length (by omega), List.take_of_length_le (by omega : xs.length ≤ m * size), Nat.min_eq_left (Nat.mul_le_mul_right _ (by omega))] at this
    exact this

/-- What a write leaves: the builder, with more; all below; all that is no row of bytes, and not the builder. -/
structure Wro (B b : Nat) (l : List UInt8) (w w' : World) : Prop where
  bu : Bu B b l w'
  bel : Below B w w'
  oth : Lib.OthersKept 5 (some b) w w'
theorem Wro.trans {B b : Nat} {l m : List UInt8} {w w1 w2 : World} (h : Wro B b l w w1) (k : Wro B b m w1 w2) : Wro B b m w w2 := ⟨k.bu, h.bel.trans k.bel, h.oth.trans k.oth⟩
theorem Wro.refl {B b : Nat} {l : List UInt8} {w : World} (h : Bu B b l w) : Wro B b l w w := ⟨h, Below.refl _ _, Lib.OthersKept.refl _ _ _⟩
theorem Wro.below {B b : Nat} {l : List UInt8} {w w1 w2 : World} (h : Wro B b l w w1) (hB : B ≤ w1.heap.size) (k : Below w1.heap.size w1 w2) : Wro B b l w w2 := ⟨h.bu.below k, h.bel.trans (k.mono hB), h.oth.below k⟩
theorem Wro.size {B b : Nat} {l : List UInt8} {w w1 : World} (h : Wro B b l w w1) (hB : B ≤ w.heap.size) : B ≤ w1.heap.size := Nat.le_trans hB h.bel.size
theorem Wro.block {B b : Nat} {l : List UInt8} {w w1 : World} (h : Wro B b l w w1) {g : Nat} {c : Array Value} {t : TypeId} {fz : Nat × Nat} (hg : w.heap[g]? = some (.cells c t fz)) (hn : g ≠ b) (ht : t ≠ 5) : w1.heap[g]? = some (.cells c t fz) :=
  h.oth g _ hg (by simpa using hn) (fun c' fz' => by intro he; injection he with _ e2; exact ht e2)
theorem write_any (B b : Nat) (l : List UInt8) (s : ByteArray) (w : World) (h : Bu B b l w) (hl : l.length + s.size ≤ 1000000000) (hB : B ≤ w.heap.size) :
    Calls Tryd.prog 34 #[.pointer (some ⟨b, 0, none⟩), .string s] w fun e w' => e = .returned (.tuple #[.int .i64 s.size, .nilIface]) ∧ Wro B b (l ++ s.data.toList) w w' := by
  refine (Tryd.Builder_WriteString_k B b _ s w h (by rw [Lib.byteCells_length]; omega) hB).mono ?_
  rintro e w' ⟨rfl, h1, h2, h3⟩
  refine ⟨rfl, ?_, h2, h3⟩
  refine .inr ?_
  rw [Lib.strCells_eq] at h1
  have : Lib.byteCells (l ++ s.data.toList) = Lib.byteCells l ++ Lib.byteCells s.data.toList := by simp [Lib.byteCells]
  rw [this]
  exact h1
/-- The same, of a text that is given as a list. -/
theorem write_list (B b : Nat) (l s : List UInt8) (w : World) (h : Bu B b l w) (hl : l.length + s.length ≤ 1000000000) (hB : B ≤ w.heap.size) :
    Calls Tryd.prog 34 #[.pointer (some ⟨b, 0, none⟩), .string ⟨s.toArray⟩] w fun e w' => e = .returned (.tuple #[.int .i64 (s.length : Int), .nilIface]) ∧ Wro B b (l ++ s) w w' :=
  write_any B b l ⟨s.toArray⟩ w h hl hB
theorem string_any (B b : Nat) (l : List UInt8) (w : World) (h : Bu B b l w) (hB : B ≤ w.heap.size) : Calls Tryd.prog 23 #[.pointer (some ⟨b, 0, none⟩)] w fun e w' => e = .returned (.string ⟨l.toArray⟩) ∧ Wro B b l w w' :=
  (Tryd.Builder_String_any_k B b l w h hB).mono fun e w' ⟨h1, h2, h3, h4⟩ => ⟨h1, h2, h3, h4⟩
/-- A new builder. -/
theorem bu_new (w : World) : Bu w.heap.size w.heap.size [] (w.alloc (.cells #[.pointer none, .slice none 0 0] 57)) :=
  .inl ⟨Nat.le_refl _, _, heap_alloc_new _ _, ⟨by simp [Lib.byteCells], .inl ⟨rfl, rfl⟩⟩, by simp [Value.ownBlock]⟩
end Go.Proofs.YtmomdcnlhljhcaaDoor
