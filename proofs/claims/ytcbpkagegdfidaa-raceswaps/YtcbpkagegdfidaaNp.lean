/- The lowest thread's of several places; ints appended to a row of one's own. -/
import Derived.Test.YtcbpkagegdfidaaFd
import Derived.Test.YtcbpkagegdfidaaEk
set_option linter.unusedSimpArgs false
set_option linter.unusedVariables false
namespace Go.Proofs.Ytcbpkagegdfidaa
open Go.RowKit

theorem mnF_snoc {α : Type} (thr : α → Int) : ∀ (l : List α) (b : Option α) (i : α), mnF thr b (l ++ [i]) = match mnF thr b l with
    | Option.none => some i
    | some c => some (if thr i < thr c then i else c)
  | [], Option.none, i => rfl
  | [], some b, i => rfl
  | j :: l, Option.none, i => mnF_snoc thr l (some j) i
  | j :: l, some b, i => mnF_snoc thr l (some (if thr j < thr b then j else b)) i
theorem mnF_mem {α : Type} (thr : α → Int) : ∀ (l : List α) (b : Option α) (c : α), mnF thr b l = some c → c ∈ l ∨ b = some c
  | [], b, c, h => .inr h
  | j :: l, Option.none, c, h => by
    rcases mnF_mem thr l (some j) c h with h | h
    · exact .inl (List.mem_cons_of_mem _ h)
    · cases h; exact .inl (by simp)
  | j :: l, some b, c, h => by
    rcases mnF_mem thr l (some (if thr j < thr b then j else b)) c h with h | h
    · exact .inl (List.mem_cons_of_mem _ h)
    · have := Option.some.inj h
      split at this
      · exact .inl (by rw [← this]; simp)
      · exact .inr (by rw [this])
/-- A place appended, and where the row lies then. -/
theorem app_ns2 (W : World) (base : Nat) (u : Value) (L : List Nat) (i : Nat) (h : W.ownsRow base 3 1 u L.length (nvs L)) (hl : L.length ≤ 1000) (hb : base ≤ W.heap.size) (a : Addr) (h0 : W.cell? (a.add 0) = some (.int .i64 (i : Int))) :
    ∃ p m c w', (∀ ty, (Builtin.append_ #[40, 40] ty #[u, .slice (some a) 1 1]).run Try.prog W = .ok (.slice p m c) w') ∧ w'.ownsRow base 3 1 (.slice p m c) (L ++ [i]).length (nvs (L ++ [i])) ∧ W.grownBy w' u.ownBlock ∧ ((Value.slice p m c).ownBlock = u.ownBlock ∨ (Value.slice p m c).ownBlock = some W.heap.size) := by
  obtain ⟨i0, hi, hz, hs, hby⟩ := in_info
  have hn : ∀ j c, ([Value.int .i64 (i : Int)] : List Value)[j]? = some c → W.cell? (a.add j) = some c := by
    intro j c hj
    match j with
    | 0 => simp at hj; rw [← hj]; exact h0
    | j + 1 => simp at hj
  have key := fun ty => run_append_own_at (P := Try.prog) W base 40 ty 3 i0 _ 1 8 Try.underlying40 hi hz hs hby rfl (by omega) u L.length (nvs L) h a 1 1 [Value.int .i64 (i : Int)] rfl hn (by intro c hc; simp at hc; rw [hc]; rfl) (by unfold maxLen; omega) (by omega) hb
  obtain ⟨v', w', hr, ho, hg, _, hat⟩ := key 0
  obtain ⟨p, m, c, rfl⟩ := own_form ho
  refine ⟨p, m, c, w', fun ty => ?_, by simpa [nvs] using ho, hg, hat⟩
  obtain ⟨v2, w2, hr2, _⟩ := key ty
  exact hr
theorem NsS.grown {w w' : World} {u : Value} {L : List Nat} {row : Option Nat} (h : NsS w u L) (hg : w.grownBy w' row) (hu : ∀ q, u.ownBlock = some q → row ≠ some q) : NsS w' u L := by
  obtain ⟨p, cap, rfl, h2, h4⟩ := h
  refine ⟨p, cap, rfl, h2, ?_⟩
  rcases h4 with h4 | ⟨b, o, rfl, hb, hr⟩
  · exact .inl h4
  · exact .inr ⟨b, o, rfl, Nat.lt_of_lt_of_le hb hg.size, fun i n hi => (World.cell?_of_block (w := w) (hg.block b hb (fun e => hu b rfl e.symm))).trans (hr i n hi)⟩
theorem frs_len (dep : Nat → Nat → Bool) (l : List Nat) : (frs dep [] l).length ≤ l.length := by
  rw [frs_all, List.length_map]
  induction l with
  | nil => simp [picks]
  | cons a l ih =>
    simp only [picks, List.length_cons, List.length_map]
    have := List.length_filter_le (fun y => !dep a y.1) (picks dep l)
    omega
theorem frs_mem {dep : Nat → Nat → Bool} {l : List Nat} {i : Nat} (h : i ∈ frs dep [] l) : i ∈ l := by
  rw [frs_all] at h
  obtain ⟨⟨a, r⟩, hm, rfl⟩ := List.mem_map.1 h
  obtain ⟨p, q, rfl, _, _⟩ := mem_picks.1 hm
  simp
/-- One step of the search for the best. -/
def nxt (t : Int) (thr : Nat → Int) (i : Nat) : Option Nat → Option Nat
  | Option.none => some i
  | some c => some (if t < thr c then i else c)
theorem nxt_is (thr : Nat → Int) (l : List Nat) (i : Nat) : mnF thr Option.none (l ++ [i]) = nxt (thr i) thr i (mnF thr Option.none l) := by
  rw [mnF_snoc]; cases mnF thr Option.none l <;> rfl
/-- The best so far, as a number. -/
def bst : Option Nat → Int
  | Option.none => -1
  | some b => (b : Int)
theorem nfi_is (x : List (Int × List (Int × Bool))) : nf (dpi x) (thi x) (List.range x.length) = nfI edep (·.1) x := rfl
end Go.Proofs.Ytcbpkagegdfidaa
