/- What comes in: slices of bytes, of numbers, of items. -/
import Derived.Test.YtpjmefbbfgpaiaaDoorFr
import Derived.Deep.Slices
import Derived.Deep.Fields
namespace Go.Proofs.YtpjmefbbfgpaiaaDoor
open Go.ChangeShapes Go.WideShapes Go.ChangeAt Go.RowKit Go.Deep

theorem nat_of_u8 {x : Int} (h : (Lit.int .u8 x).wf = true) : ∃ n : Nat, x = (n : Int) ∧ n < 256 := by
  have hb := bounds_u8 h
  exact ⟨x.toNat, by omega, by omega⟩
theorem nat_of_u16 {x : Int} (h : (Lit.int .u16 x).wf = true) : ∃ n : Nat, x = (n : Int) ∧ n < 65536 := by
  have hb := bounds_u16 h
  exact ⟨x.toNat, by omega, by omega⟩

section
variable {H : Type} {enc : TypeId × Value → H} {W : World} {base : Nat} {spare : Nat → Bool} {held : Bool}

theorem bytes_of_trod {fuel : Nat} {a : Option Addr} {len cap : Nat} {x : DataW H × List MemPlace} (hf : DataW.trod enc Tryd.prog W base spare held fuel 24 [.slice a len cap] = some x) :
    ∃ l : List Nat, len = l.length ∧ Rd W a l ∧ (a = none → cap = 0) ∧ ∀ b ∈ l, b < 256 := by
  rcases open_ints Tryd.underlying24 Tryd.underlying5 (by kernel_rfl) hf with ⟨hcs, _⟩ | ⟨ad, len', cap', zs, hcs, _, hl, hm, hz, _, hcell, hwz⟩
  · simp only [List.cons.injEq, Value.slice.injEq, and_true] at hcs
    obtain ⟨rfl, rfl, rfl⟩ := hcs
    exact ⟨[], rfl, Rd.nil _ _, fun _ => rfl, by simp⟩
  · simp only [List.cons.injEq, Value.slice.injEq, and_true] at hcs
    obtain ⟨rfl, rfl, rfl⟩ := hcs
    have hzl : len ≤ zs.length := by rw [hz]; split <;> omega
    have hwf : ∀ i, i < zs.length → ∃ n : Nat, zs.getD i 0 = (n : Int) ∧ n < 256 := fun i hi =>
      nat_of_u8 (hwz _ (by simp [List.getD, List.getElem?_eq_getElem hi]))
    refine ⟨(zs.take len).map Int.toNat, by simp; omega, fun hp => ?_, by simp, ?_⟩
    · have hp' : 0 < len := by simp at hp; omega
      refine ⟨ad, rfl, ?_, fun j hj => ?_⟩
      · have := lt_of_cell (hcell 0 (by omega))
        rwa [add_block] at this
      · have hj' : j < len := by simp at hj; omega
        obtain ⟨n, hn, _⟩ := hwf j (by omega)
        rw [hcell j (by omega)]
        simp only [List.getD, List.getElem?_map, List.getElem?_take, if_pos hj'] at hn ⊢
        rw [List.getElem?_eq_getElem (show j < zs.length by omega)] at hn ⊢
        simp only [Option.getD_some, Option.map_some] at hn ⊢
        rw [hn]
        simp
    · intro b hb
      simp only [List.mem_map] at hb
      obtain ⟨z, hz', rfl⟩ := hb
      have := bounds_u8 (hwz z (List.mem_of_mem_take hz'))
      omega

theorem open_bytes {a : Option Addr} {len cap : Nat} {d : DataW H} {p : List MemPlace} (h : DataW.Trod enc Tryd.prog W base spare held 24 (.slice a len cap) d p) :
    ∃ l : List Nat, len = l.length ∧ Rd W a l ∧ (a = none → cap = 0) ∧ ∀ b ∈ l, b < 256 := by
  obtain ⟨fuel, hf⟩ := h
  exact bytes_of_trod hf

/-- A slice of ints that came in. -/
def RdI (w : World) (A : Option Addr) (l : List Int) : Prop :=
  0 < l.length → ∃ ad : Addr, A = some ad ∧ ad.block < w.heap.size ∧ ∀ j, j < l.length → w.cell? (ad.add j) = some (.int .i64 (l.getD j 0))
def Fits63 (n : Int) : Prop := -9223372036854775808 ≤ n ∧ n ≤ 9223372036854775807
theorem open_intsl {a : Option Addr} {len cap : Nat} {d : DataW H} {p : List MemPlace} (h : DataW.Trod enc Tryd.prog W base spare held 43 (.slice a len cap) d p) :
    ∃ l : List Int, len = l.length ∧ RdI W a l ∧ ∀ b ∈ l, Fits63 b := by
  obtain ⟨fuel, hf⟩ := h
  rcases open_ints Tryd.underlying43 Tryd.underlying3 (by kernel_rfl) hf with ⟨hcs, _⟩ | ⟨ad, len', cap', zs, hcs, _, hl, hm, hz, _, hcell, hwz⟩
  · simp [Value.cells] at hcs
    obtain ⟨rfl, rfl, rfl⟩ := hcs
    exact ⟨[], rfl, fun h => absurd h (by simp), by simp⟩
  · simp [Value.cells] at hcs
    obtain ⟨rfl, rfl, rfl⟩ := hcs
    have hzl : len ≤ zs.length := by rw [hz]; split <;> omega
    refine ⟨zs.take len, by simp; omega, fun hp => ?_, fun b hb => bounds_i64 (hwz b (List.mem_of_mem_take hb))⟩
    have hp' : 0 < len := by simp at hp; omega
    refine ⟨ad, rfl, ?_, fun j hj => ?_⟩
    · have := lt_of_cell (hcell 0 (by omega))
      rwa [add_block] at this
    · have hj' : j < len := by simp at hj; omega
      rw [hcell j (by omega)]
      simp [List.getD, hj']

/-- An item as it lies: a number, a slice of bytes, a bool. -/
structure It where
  n : Nat
  A : Option Addr
  c : Nat
  l : List Nat
  is : Bool
/-- The item t lies at a, in three cells; what its slice leads to is there. -/
def ItemAt (w : World) (a : Addr) (t : It) : Prop :=
  w.cell? a = some (.int .u64 (t.n : Int)) ∧ w.cell? (a.add 1) = some (.slice t.A t.l.length t.c) ∧ w.cell? (a.add 2) = some (.bool t.is) ∧
  Rd w t.A t.l ∧ (t.A = none → t.c = 0) ∧ (∀ b ∈ t.l, b < 256) ∧ Fits64 t.n
/-- A slice of items that came in. -/
def RdT (w : World) (A : Option Addr) (l : List It) : Prop :=
  0 < l.length → ∃ ad : Addr, A = some ad ∧ ad.block < w.heap.size ∧ ∀ (j : Nat) (t : It), l[j]? = some t → ItemAt w (ad.add (j * 3)) t

theorem item_of_trod {n : Nat} {a : Addr} {cs : List Value} {x : DataW H × List MemPlace} (hc : W.cells? base a 3 = some cs) (hf : DataW.trod enc Tryd.prog W base spare held n 29 cs = some x) : ∃ t : It, ItemAt W a t := by
  obtain ⟨xs, m, _, _, _, hlen, hg⟩ := DataW.trod_struct Tryd.underlying29 hf
  obtain ⟨_, hcl, hat⟩ := World.cells?_some hc
  match cs, hcl with
  | [c0, c1, c2], _ =>
    have h0 : DataW.trod enc Tryd.prog W base spare held m 27 (List.take (Tryd.prog.cellsOf 27) (List.drop 0 [c0, c1, c2])) = xs[0]? := hg 0 _ rfl
    have h1 : DataW.trod enc Tryd.prog W base spare held m 24 (List.take (Tryd.prog.cellsOf 24) (List.drop 1 [c0, c1, c2])) = xs[1]? := hg 1 _ rfl
    have h2 : DataW.trod enc Tryd.prog W base spare held m 4 (List.take (Tryd.prog.cellsOf 4) (List.drop 2 [c0, c1, c2])) = xs[2]? := hg 2 _ rfl
    have l3 : xs.length = 3 := hlen
    rw [show Tryd.prog.cellsOf 27 = 1 by kernel_rfl, List.getElem?_eq_getElem (by omega)] at h0
    rw [show Tryd.prog.cellsOf 24 = 1 by kernel_rfl, List.getElem?_eq_getElem (by omega)] at h1
    rw [show Tryd.prog.cellsOf 4 = 1 by kernel_rfl, List.getElem?_eq_getElem (by omega)] at h2
    obtain ⟨z, e0, _, wz⟩ := DataW.trod_int Tryd.underlying27 h0
    obtain ⟨b, e2, _⟩ := DataW.trod_bool Tryd.underlying4 h2
    have e0' : c0 = .int .u64 z := by simpa using e0
    have e2' : c2 = .bool b := by simpa using e2
    have h1' : DataW.trod enc Tryd.prog W base spare held m 24 [c1] = some _ := h1
    obtain ⟨A, len, cap, rfl⟩ : ∃ A len cap, c1 = .slice A len cap := by
      rcases open_ints Tryd.underlying24 Tryd.underlying5 (by kernel_rfl) h1' with ⟨hcs, _⟩ | ⟨ad, len', cap', zs, hcs, _⟩
      · exact ⟨none, 0, 0, by simpa using hcs⟩
      · exact ⟨some ad, len', cap', by simpa using hcs⟩
    obtain ⟨l, rfl, hr, hA, hby⟩ := bytes_of_trod h1'
    obtain ⟨k, rfl, fk⟩ := nat_of_u64 wz
    refine ⟨⟨k, A, cap, l, b⟩, ?_, ?_, ?_, hr, hA, hby, fk⟩
    · have := hat 0 (by omega)
      simpa [Addr.add, e0'] using this
    · simpa using hat 1 (by omega)
    · simpa [e2'] using hat 2 (by omega)

theorem open_items {a : Option Addr} {len cap : Nat} {d : DataW H} {p : List MemPlace} (h : DataW.Trod enc Tryd.prog W base spare held 22 (.slice a len cap) d p) :
    ∃ l : List It, len = l.length ∧ RdT W a l := by
  obtain ⟨fuel, hf⟩ := h
  rcases open_slice Tryd.underlying22 hf with ⟨hcs, _⟩ | ⟨ad, len', cap', m, n, D, Pl, hcs, _, hl, hm, hmm, _, hi⟩
  · simp [Value.cells] at hcs
    obtain ⟨rfl, rfl, rfl⟩ := hcs
    exact ⟨[], rfl, fun h => absurd h (by simp)⟩
  · simp [Value.cells] at hcs
    obtain ⟨rfl, rfl, rfl⟩ := hcs
    rw [show Tryd.prog.cellsOf 29 = 3 by kernel_rfl] at hi
    have hlm : len ≤ m := by rw [hmm]; split <;> omega
    have hex : ∀ k, k ≤ len → ∃ l : List It, l.length = k ∧ ∀ (j : Nat) (t : It), l[j]? = some t → ItemAt W (ad.add (j * 3)) t := by
      intro k
      induction k with
      | zero => intro _; exact ⟨[], rfl, by simp⟩
      | succ k ih =>
        intro hk
        obtain ⟨l, hl, hall⟩ := ih (by omega)
        obtain ⟨cs', hc, ht⟩ := hi k (by omega)
        obtain ⟨t, hit⟩ := item_of_trod hc ht
        refine ⟨l ++ [t], by simp [hl], fun j u hu => ?_⟩
        rcases Nat.lt_or_ge j l.length with hj | hj
        · rw [List.getElem?_append_left hj] at hu
          exact hall j u hu
        · rw [List.getElem?_append_right hj] at hu
          have hj0 : j - l.length = 0 := by
            rcases Nat.eq_zero_or_pos (j - l.length) with h | h
            · exact h
            · rw [List.getElem?_eq_none (by simp; omega)] at hu; cases hu
          rw [hj0] at hu
          simp only [List.getElem?_cons_zero, Option.some.injEq] at hu
          subst hu
          obtain rfl : j = k := by omega
          exact hit
    obtain ⟨l, hll, hall⟩ := hex len (Nat.le_refl _)
    refine ⟨l, hll.symm, fun hp => ⟨ad, rfl, ?_, hall⟩⟩
    have h0 := hall 0 l[0] (List.getElem?_eq_getElem hp)
    have := lt_of_cell h0.1
    rwa [add_block] at this
end
end Go.Proofs.YtpjmefbbfgpaiaaDoor
