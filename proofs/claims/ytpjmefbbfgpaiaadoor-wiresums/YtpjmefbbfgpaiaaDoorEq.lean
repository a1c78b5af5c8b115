/- slices.Equal at bytes; wire.Sum's loop. -/
import Derived.Test.YtpjmefbbfgpaiaaDoorWr
import Derived.Deep.QuietTactic
import Derived.BigQuiet
namespace Go.Proofs.YtpjmefbbfgpaiaaDoor
open Go.RowKit

def sameB (l k : List Nat) : Bool := decide (l = k)
theorem sameB_of {l k : List Nat} (h : l = k) : sameB l k = true := by simp [sameB, h]
theorem sameB_not {l k : List Nat} (h : l ≠ k) : sameB l k = false := by simp [sameB, h]

theorem list_ext_getD {l k : List Nat} (hl : l.length = k.length) (h : ∀ t, t < l.length → l.getD t 0 = k.getD t 0) : l = k := by
  apply List.ext_getElem hl
  intro i h1 h2
  have := h i h1
  simpa [List.getD, List.getElem?_eq_getElem h1, List.getElem?_eq_getElem h2] using this

/-- A bool comes back; the world is as it was, but for draws. -/
def Told (w : World) (r : Bool) (e : Ending) (w' : World) : Prop := e = .returned (.bool r) ∧ ∃ q, w' = w.drewN q
theorem Told.of {w w' : World} {r r' : Bool} (h : r = r') (hw : ∃ q, w' = w.drewN q) : Told w r (.returned (.bool r')) w' := ⟨by rw [h], hw⟩

set_option maxRecDepth 100000 in
set_option maxHeartbeats 800000 in
theorem equal_any (A B : Option Addr) (c d : Nat) (l k : List Nat) (w : World) (hl : Rd w A l) (hk : Rd w B k) (hb : l.length ≤ 2000000) (hb2 : k.length ≤ 2000000) :
    Calls Tryd.prog 14 #[.slice A l.length c, .slice B k.length d] w (Told w (sameB l k)) := by
  by_cases hlen : l.length = k.length
  · rcases Nat.eq_zero_or_pos l.length with h0 | hpos
    · have e1 : l = [] := List.eq_nil_of_length_eq_zero h0
      have e2 : k = [] := List.eq_nil_of_length_eq_zero (by omega)
      subst e1 e2
      clear hl hk hb hb2 hlen h0
      go_enter Tryd.func14, Tryd.ntmps14
      go_wp2
      refine wp_loop_rounds 1 ?_
      rw [rounds_succ]
      go_wp2
      go_ret
      exact ⟨rfl, 0, rfl⟩
    · obtain ⟨ad, rfl, hab, hac⟩ := hl hpos
      obtain ⟨bd, rfl, hbb, hbc⟩ := hk (by omega)
      have hne : ((l.length : Int) != (k.length : Int)) = false := by rw [hlen]; simp
      have Hl := Lib.hid hlen
      have Ha := Lib.hid hac
      have Hb := Lib.hid hbc
      clear hlen hac hbc hl hk
      go_enter Tryd.func14, Tryd.ntmps14
      go_wp2
      go_loopw [13] (fun i wr => ∃ j q : Nat, j ≤ l.length ∧ i = .int .i64 (j : Int) ∧ wr = w.drewN q ∧ Hid (∀ t, t < j → l.getD t 0 = k.getD t 0)) (fun i _ => l.length - (intOf i).toNat)
      case atStart => exact ⟨0, 0, Nat.zero_le _, rfl, rfl, fun t h => absurd h (Nat.not_lt_zero _)⟩
      case round =>
        obtain ⟨j, q, hj, rfl, rfl, hall⟩ := hrel
        by_cases hlt : j < l.length
        · have h1 : w.cell? (ad.add j) = some (.int .u8 (l.getD j 0 : Nat)) := Ha.out j hlt
          have h2 : w.cell? (bd.add j) = some (.int .u8 (k.getD j 0 : Nat)) := Hb.out j (by have := Hl.out; omega)
          have hlt2 : j < k.length := by have := Hl.out; omega
          generalize hx : l.getD j 0 = x at *
          generalize hy : k.getD j 0 = y at *
          have Hx := Lib.hid hx
          have Hy := Lib.hid hy
          clear hx hy
          by_cases hxy : x = y
          · subst hxy
            go_wp2
            go_quiet (fail)
            go_wp2
            go_roundw
            case rel => exact ⟨j + 1, _, by omega, by go_num, rfl, fun t ht => by
              rcases Nat.lt_or_ge t j with h | h
              · exact hall.out t h
              · obtain rfl : t = j := by omega
                rw [Hx.out, Hy.out]⟩
            case measure => simp [intOf]; omega
          · have hxb : ((x : Int) != (y : Int)) = true := by rw [bne_iff_ne]; omega
            have hxc : ((x : Int) == (y : Int)) = false := by rw [beq_eq_false_iff_ne]; omega
            go_wp2
            go_quiet (fail)
            go_wp2
            try rw [Exit.noGoto_ret]
            go_ret
            refine Told.of (sameB_not ?_) ⟨_, World.drewN_drewN _ _ _⟩
            intro e
            subst e
            exact hxy (Hx.out.symm.trans Hy.out)
        · go_wp2
          go_ret
          refine Told.of (sameB_of ?_) ⟨_, rfl⟩
          obtain rfl : j = l.length := by omega
          exact list_ext_getD Hl.out hall.out
  · have hne : ((l.length : Int) != (k.length : Int)) = true := by rw [bne_iff_ne]; omega
    clear hl hk
    go_enter Tryd.func14, Tryd.ntmps14
    go_wp2
    go_ret
    exact Told.of (sameB_not (fun e => hlen (by rw [e]))) ⟨0, rfl⟩
end Go.Proofs.YtpjmefbbfgpaiaaDoor
