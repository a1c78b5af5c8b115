/- Events picked out of a row, one by one, into another one; of any two that depend the order in both. -/
import Derived.Test.YtmhaelfmojigoaaPk
set_option linter.unusedSimpArgs false
set_option linter.unusedVariables false
namespace Go.Proofs.Ytmhaelfmojigoaa
open Go.RowKit

/-- On the way: what is left lies in a row, what is picked in another one. -/
structure PkJ (w0 w : World) (lv yv : Value) (left y : Evl) : Prop where
  hl : EvIP (Blw w0.heap.size) w w0.heap.size lv left
  hy : EvIP (Blw w0.heap.size) w w0.heap.size yv y
  nl : ∀ q, lv.ownBlock = some q → yv.ownBlock ≠ some q
  bel : Below w0.heap.size w0 w
theorem PkJ.append {w0 w : World} {g n c : Nat} {yv : Value} {left y : Evl} {e : Int × List (Int × Bool)} {q : Option Addr} {m d : Nat} (h : PkJ w0 w (.slice (some ⟨g, 0, Option.none⟩) n c) yv left y) (hyl : y.length ≤ 1000) (hm : MkP (Blw w0.heap.size) w (.slice q m d) e.2) :
    ∃ p' m' c' w', (∀ ty, (Builtin.append_ #[25, 25] ty #[yv, .slice (some ⟨w.heap.size, 0, Option.none⟩) 1 1]).run Try.prog (w.alloc (Obj.cells #[.int .i64 e.1, .slice q m d] 39)) = .ok (.slice p' m' c') w') ∧
      PkJ w0 w' (.slice (some ⟨g, 0, Option.none⟩) n c) (.slice p' m' c') left (y ++ [e]) := by
  have hW : Below w.heap.size w (w.alloc (Obj.cells #[.int .i64 e.1, .slice q m d] 39)) := below_alloc w _
  have hg2 := heap_alloc_new w (Obj.cells #[Value.int .i64 e.1, .slice q m d] 39)
  obtain ⟨v', w', hrun, hi', hgr, hat⟩ := app_evp (P := Blw w0.heap.size) (w.alloc (Obj.cells #[.int .i64 e.1, .slice q m d] 39)) w0.heap.size yv (.slice q m d) y e.1 e.2 (h.hy.kept hW) hyl (by have := h.bel.size; simp; omega) ⟨w.heap.size, 0, Option.none⟩ (by rw [add_lit, cell_of_row _ _ _ _ _ _ hg2]; rfl) (by rw [add_lit, cell_of_row _ _ _ _ _ _ hg2]; rfl) (hm.kept hW)
    (fun r hr e => by have h1 := hm.2 r hr; have h2 := (h.hy.own e).1; omega)
  obtain ⟨p', m', c', rfl⟩ := hi'.form
  have hyq : ∀ r, yv.ownBlock = some r → w0.heap.size ≤ r := fun r hr => (h.hy.own hr).1
  have hrowP : ∀ u, Blw w0.heap.size u → ∀ q, u.ownBlock = some q → yv.ownBlock ≠ some q := fun u hu q hq e => by
    have h1 := hu q hq
    have h2 := hyq q e
    omega
  have hnew : ∀ r, (Value.slice p' m' c').ownBlock = some r → g ≠ r := fun r hr => by
    rcases hat with hat | hat
    · rw [hat] at hr
      exact fun e => (h.nl g rfl) (by rw [e]; exact hr)
    · rw [hat] at hr
      have h1 := Option.some.inj hr
      have h2 := (h.hl.own (q := g) rfl).2
      simp at h1
      omega
  refine ⟨p', m', c', w', hrun, ⟨(h.hl.kept hW).gr hgr hrowP (.inr fun e => (h.nl g rfl) e.symm), hi', fun r hr e => hnew r e (Option.some.inj hr), ?_⟩⟩
  exact (h.bel.trans (hW.mono h.bel.size)).grown hgr (by have := h.bel.size; simp; omega) (fun r hr => hyq r hr)
theorem PkJ.del {w0 w w' : World} {g n c : Nat} {yv : Value} {left left' y : Evl} (h : PkJ w0 w (.slice (some ⟨g, 0, Option.none⟩) n c) yv left y) {n' : Nat} (hd : EvIP (Blw w0.heap.size) w' w0.heap.size (.slice (some ⟨g, 0, Option.none⟩) n' c) left') (hg : w.grownBy w' (some g)) :
    PkJ w0 w' (.slice (some ⟨g, 0, Option.none⟩) n' c) yv left' y := by
  have hgb := (h.hl.own (q := g) rfl).1
  exact ⟨hd, h.hy.gr hg (blw_row hgb) (.inr fun e => (h.nl g rfl) e), fun q hq => h.nl q hq, h.bel.grown hg h.bel.size (fun k hk => by have := Option.some.inj hk; omega)⟩
/-- Of these two the order is the same in both, if they depend on one another. -/
def okp (x y : Evl) (a c : Int × List (Int × Bool)) : Bool := !edep a c || decide (prj a c x = prj a c y)
theorem prj_out {α : Type} [DecidableEq α] {a c : α} {x : List α} (h : a ∉ x) : prj a c x = prj c c x := by
  unfold prj
  apply List.filter_congr
  intro b hb
  have : (b == a) = false := by rw [beq_eq_false_iff_ne]; rintro rfl; exact h hb
  rw [this]
  simp
theorem prj_nil {α : Type} [DecidableEq α] {c : α} {z : List α} (h : c ∉ z) : prj c c z = [] := by
  unfold prj
  rw [List.filter_eq_nil_iff]
  intro b hb
  have : (b == c) = false := by rw [beq_eq_false_iff_ne]; rintro rfl; exact h hb
  rw [this]; simp
theorem prj_comm {α : Type} [DecidableEq α] (a c : α) (x : List α) : prj a c x = prj c a x := by
  unfold prj
  apply List.filter_congr
  intro b _
  exact Bool.or_comm _ _
theorem pairs_is {x y : Evl} (h : y.Perm x) : x.all (fun a => x.all (okp x y a)) = smb x y := by
  rw [Bool.eq_iff_iff, smb_iff, tr_iff_prj edep_refl edep_symm]
  simp only [List.all_eq_true, okp, Bool.or_eq_true, Bool.not_eq_true', decide_eq_true_eq]
  constructor
  · intro hx b c hbc
    have one : ∀ c, prj c c x = prj c c y := fun c => by
      by_cases hc : c ∈ x
      · rcases hx c hc c hc with h1 | h1
        · rw [edep_refl] at h1; cases h1
        · exact h1
      · have h2 : c ∉ y := fun h' => hc (h.mem_iff.1 h')
        rw [prj_nil hc, prj_nil h2]
    by_cases hb : b ∈ x
    · by_cases hc : c ∈ x
      · rcases hx b hb c hc with h1 | h1
        · rw [hbc] at h1; cases h1
        · exact h1
      · have h2 : c ∉ y := fun h' => hc (h.mem_iff.1 h')
        rw [prj_comm b c x, prj_comm b c y, prj_out hc, prj_out h2, one]
    · have h2 : b ∉ y := fun h' => hb (h.mem_iff.1 h')
      rw [prj_out hb, prj_out h2, one]
  · intro hx a _ c _
    cases hd : edep a c with
    | true => exact .inr (hx a c hd)
    | false => exact .inl rfl
end Go.Proofs.Ytmhaelfmojigoaa
