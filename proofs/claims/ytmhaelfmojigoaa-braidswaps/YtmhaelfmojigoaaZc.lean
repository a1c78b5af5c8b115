/- braid's own contracts, as the statements ask for them. -/
import Derived.Test.YtmhaelfmojigoaaCn
import Derived.Test.YtmhaelfmojigoaaZs
import Derived.Test.YtmhaelfmojigoaaZx
import Derived.Test.YtmhaelfmojigoaaZa
set_option linter.unusedSimpArgs false
set_option linter.unusedVariables false
namespace Go.Proofs.Ytmhaelfmojigoaa
open Go.RowKit

theorem formC : FormC := fun x v w hs hk => form_o x v w hs hk
theorem normC : NormC := fun x v w hs hk => (normal_o x v w hs hk).mono fun e w' ⟨v', h1, h2, _, h3⟩ => ⟨v', h1, h2, h3⟩
theorem sameC : SameC := fun x y v u w hs hu hk hk2 => same_o x y v u w hs hu hk hk2
theorem iniC : IniC := fun x v w hs hk => initials_o x v w hs hk
theorem swapC : SwapC := by
  intro x i v w hs hk hi
  by_cases hlt : i + 1 < x.length
  · obtain ⟨e, he⟩ : ∃ e, x[i]? = some e := ⟨_, List.getElem?_eq_getElem (by omega)⟩
    obtain ⟨f, hf⟩ : ∃ f, x[i + 1]? = some f := ⟨_, List.getElem?_eq_getElem hlt⟩
    refine (xswap_in x i e f v w hs hk he hf).mono ?_
    rintro r w' ⟨v', rfl, hv, hb⟩
    refine ⟨v', !edep e f, rfl, ?_, ?_, hb⟩
    · constructor
      · intro h
        exact ⟨e, f, he, hf, by simpa using h⟩
      · rintro ⟨a, b, ha, hb, hd⟩
        rw [he] at ha
        rw [hf] at hb
        cases ha
        cases hb
        rw [hd]
        rfl
    · cases hd : edep e f with
      | true => rw [hd] at hv; exact hv
      | false => rw [hd] at hv; exact hv
  · refine (xswap_out x i v w hs hk (by omega) hi).mono ?_
    rintro r w' ⟨rfl, hb⟩
    refine ⟨_, false, rfl, ?_, ⟨Option.none, 0, rfl, Nat.le_refl _, by unfold maxLen; omega, .inl ⟨rfl, rfl⟩⟩, hb⟩
    constructor
    · intro h; cases h
    · rintro ⟨a, b, ha, hb, hd⟩
      have := (List.getElem?_eq_some_iff.1 hb).1
      omega
end Go.Proofs.Ytmhaelfmojigoaa
