/- A scope in which the run jumps to three labels: what holds at each jump, and a measure that every pass from a label lowers. -/
import Derived.ScopeJumps
import Derived.WalkMore
namespace Go.Proofs.YtgiioflkclkioaaGreatDoor
open Go

/-- As Q; by a goto to one of three labels: what is told of it; by any other goto: no way out. -/
def jump3 (l1 l2 l3 : Nat) (J1 J2 J3 : Act → World → Prop) (Q : Exit → Act → World → Prop) : Exit → Act → World → Prop
  | .goto l', a, w => (l' = l1 ∧ J1 a w) ∨ (l' = l2 ∧ J2 a w) ∨ (l' = l3 ∧ J3 a w)
  | e, a, w => Q e a w

theorem scope3 {P : Program} {a : Act} {w : World} {Q : Exit → Act → World → Prop} {c r1 r2 r3 : Code} (l1 l2 l3 : Nat) (J1 J2 J3 : Act → World → Prop) (m1 m2 m3 : Act → World → Nat)
    (f1 : findLabel c l1 = some r1) (f2 : findLabel c l2 = some r2) (f3 : findLabel c l3 = some r3)
    (first : c.wp P (jump3 l1 l2 l3 J1 J2 J3 Q) a w)
    (p1 : ∀ a w, J1 a w → r1.wp P (jump3 l1 l2 l3 (fun a' w' => J1 a' w' ∧ m1 a' w' < m1 a w) (fun a' w' => J2 a' w' ∧ m2 a' w' < m1 a w) (fun a' w' => J3 a' w' ∧ m3 a' w' < m1 a w) Q) a w)
    (p2 : ∀ a w, J2 a w → r2.wp P (jump3 l1 l2 l3 (fun a' w' => J1 a' w' ∧ m1 a' w' < m2 a w) (fun a' w' => J2 a' w' ∧ m2 a' w' < m2 a w) (fun a' w' => J3 a' w' ∧ m3 a' w' < m2 a w) Q) a w)
    (p3 : ∀ a w, J3 a w → r3.wp P (jump3 l1 l2 l3 (fun a' w' => J1 a' w' ∧ m1 a' w' < m3 a w) (fun a' w' => J2 a' w' ∧ m2 a' w' < m3 a w) (fun a' w' => J3 a' w' ∧ m3 a' w' < m3 a w) Q) a w) :
    (Code.scope c).wp P Q a w := by
  intro b k cs
  have g1 : gotoIn l1 (.inScope c :: k) = some (.code r1 :: .inScope c :: k) := by simp [gotoIn, f1]
  have g2 : gotoIn l2 (.inScope c :: k) = some (.code r2 :: .inScope c :: k) := by simp [gotoIn, f2]
  have g3 : gotoIn l3 (.inScope c :: k) = some (.code r3 :: .inScope c :: k) := by simp [gotoIn, f3]
  have key : ∀ n, (∀ a w, m1 a w = n → J1 a w → ∃ e a' w', Q e a' w' ∧ Arrives P (lone (b.at a (.code r1 :: .inScope c :: k)) cs w) b k cs e a' w') ∧
      (∀ a w, m2 a w = n → J2 a w → ∃ e a' w', Q e a' w' ∧ Arrives P (lone (b.at a (.code r2 :: .inScope c :: k)) cs w) b k cs e a' w') ∧
      (∀ a w, m3 a w = n → J3 a w → ∃ e a' w', Q e a' w' ∧ Arrives P (lone (b.at a (.code r3 :: .inScope c :: k)) cs w) b k cs e a' w') := by
    intro n
    induction n using Nat.strongRecOn with
    | _ n ih =>
      have one : ∀ (r : Code) (a : Act) (w : World), (r.wp P (jump3 l1 l2 l3 (fun a' w' => J1 a' w' ∧ m1 a' w' < n) (fun a' w' => J2 a' w' ∧ m2 a' w' < n) (fun a' w' => J3 a' w' ∧ m3 a' w' < n) Q) a w) →
          ∃ e a' w', Q e a' w' ∧ Arrives P (lone (b.at a (.code r :: .inScope c :: k)) cs w) b k cs e a' w' := by
        intro r a w hr
        obtain ⟨e, a1, w1, hq, harr⟩ := hr b (.inScope c :: k) cs
        cases e with
        | normal => exact ⟨.normal, a1, w1, hq, Steps.trans harr (.one step_inScope)⟩
        | exit id => exact ⟨.exit id, a1, w1, hq, fun k' hk => harr k' (by simp [exitTo, hk])⟩
        | goto l' =>
          rcases hq with ⟨rfl, hJ, hlt⟩ | ⟨rfl, hJ, hlt⟩ | ⟨rfl, hJ, hlt⟩
          · obtain ⟨e2, a2, w2, hq2, harr2⟩ := (ih _ hlt).1 a1 w1 rfl hJ
            exact ⟨e2, a2, w2, hq2, .of_steps (harr _ g1) harr2⟩
          · obtain ⟨e2, a2, w2, hq2, harr2⟩ := (ih _ hlt).2.1 a1 w1 rfl hJ
            exact ⟨e2, a2, w2, hq2, .of_steps (harr _ g2) harr2⟩
          · obtain ⟨e2, a2, w2, hq2, harr2⟩ := (ih _ hlt).2.2 a1 w1 rfl hJ
            exact ⟨e2, a2, w2, hq2, .of_steps (harr _ g3) harr2⟩
        | ret => exact ⟨_, a1, w1, hq, harr⟩
        | panic ch => exact ⟨_, a1, w1, hq, harr⟩
        | outgrown => exact ⟨_, a1, w1, hq, harr⟩
      refine ⟨fun a w hn hJ => one r1 a w ?_, fun a w hn hJ => one r2 a w ?_, fun a w hn hJ => one r3 a w ?_⟩
      · have := p1 a w hJ; rw [hn] at this; exact this
      · have := p2 a w hJ; rw [hn] at this; exact this
      · have := p3 a w hJ; rw [hn] at this; exact this
  obtain ⟨e, a1, w1, hq, harr⟩ := first b (.inScope c :: k) cs
  cases e with
  | normal => exact ⟨.normal, a1, w1, hq, .head step_scope (Steps.trans harr (.one step_inScope))⟩
  | exit id => exact ⟨.exit id, a1, w1, hq, fun k' hk => .head step_scope (harr k' (by simp [exitTo, hk]))⟩
  | goto l' =>
    rcases hq with ⟨rfl, hJ⟩ | ⟨rfl, hJ⟩ | ⟨rfl, hJ⟩
    · obtain ⟨e2, a2, w2, hq2, harr2⟩ := (key _).1 a1 w1 rfl hJ
      exact ⟨e2, a2, w2, hq2, .of_steps (.head step_scope (harr _ g1)) harr2⟩
    · obtain ⟨e2, a2, w2, hq2, harr2⟩ := (key _).2.1 a1 w1 rfl hJ
      exact ⟨e2, a2, w2, hq2, .of_steps (.head step_scope (harr _ g2)) harr2⟩
    · obtain ⟨e2, a2, w2, hq2, harr2⟩ := (key _).2.2 a1 w1 rfl hJ
      exact ⟨e2, a2, w2, hq2, .of_steps (.head step_scope (harr _ g3)) harr2⟩
  | ret => exact ⟨_, a1, w1, hq, .of_steps (.one step_scope) harr⟩
  | panic ch => exact ⟨_, a1, w1, hq, .of_steps (.one step_scope) harr⟩
  | outgrown => exact ⟨_, a1, w1, hq, .of_steps (.one step_scope) harr⟩
/-- The same where the scope begins with the first label. -/
theorem scope3h {P : Program} {a : Act} {w : World} {Q : Exit → Act → World → Prop} {r1 r2 r3 : Code} (l1 l2 l3 : Nat) (J1 J2 J3 : Act → World → Prop) (m1 m2 m3 : Act → World → Nat)
    (f2 : findLabel ((Code.label l1).seq r1) l2 = some r2) (f3 : findLabel ((Code.label l1).seq r1) l3 = some r3)
    (first : J1 a w)
    (p1 : ∀ a w, J1 a w → r1.wp P (jump3 l1 l2 l3 (fun a' w' => J1 a' w' ∧ m1 a' w' < m1 a w) (fun a' w' => J2 a' w' ∧ m2 a' w' < m1 a w) (fun a' w' => J3 a' w' ∧ m3 a' w' < m1 a w) Q) a w)
    (p2 : ∀ a w, J2 a w → r2.wp P (jump3 l1 l2 l3 (fun a' w' => J1 a' w' ∧ m1 a' w' < m2 a w) (fun a' w' => J2 a' w' ∧ m2 a' w' < m2 a w) (fun a' w' => J3 a' w' ∧ m3 a' w' < m2 a w) Q) a w)
    (p3 : ∀ a w, J3 a w → r3.wp P (jump3 l1 l2 l3 (fun a' w' => J1 a' w' ∧ m1 a' w' < m3 a w) (fun a' w' => J2 a' w' ∧ m2 a' w' < m3 a w) (fun a' w' => J3 a' w' ∧ m3 a' w' < m3 a w) Q) a w) :
    (Code.scope ((Code.label l1).seq r1)).wp P Q a w := by
  refine scope3 (r1 := Code.skip.seq r1) l1 l2 l3 J1 J2 J3 m1 m2 m3 (by simp [findLabel]) f2 f3 ?_ (fun a w h => wp_seq (wp_skip (p1 a w h))) p2 p3
  refine wp_seq (wp_label ?_)
  refine wp_mono (p1 a w first) ?_
  intro e a' w' h
  cases e with
  | goto l' =>
    rcases h with ⟨h1, h2, _⟩ | ⟨h1, h2, _⟩ | ⟨h1, h2, _⟩
    · exact .inl ⟨h1, h2⟩
    · exact .inr (.inl ⟨h1, h2⟩)
    · exact .inr (.inr ⟨h1, h2⟩)
  | _ => exact h
end Go.Proofs.YtgiioflkclkioaaGreatDoor
