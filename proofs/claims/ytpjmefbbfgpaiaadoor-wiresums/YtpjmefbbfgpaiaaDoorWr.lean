/- The writer's calls: Num, Raw, Bytes; slices.Clone. -/
import Derived.Test.YtpjmefbbfgpaiaaDoorWd
import Derived.Test.YtpjmefbbfgpaiaaDoorProg
namespace Go.Proofs.YtpjmefbbfgpaiaaDoor
open Go.RowKit

theorem info5 : (Tryd.prog.info? 5).map (fun i => (i.zero, i.size, i.bytes)) = some (some (.int .u8 0), 1, 1) := by kernel_rfl


set_option maxRecDepth 100000 in
theorem or128 (m : Nat) : bits .or .u8 ((m : Int) % 256) 128 = ((128 + m % 128 : Nat) : Int) := by
  have h : ∀ x : Nat, x < 256 → x ||| 128 = 128 + x % 128 := by decide
  have e : ((m : Int) % 256) = ((m % 256 : Nat) : Int) := by omega
  rw [e, show (128 : Int) = ((128 : Nat) : Int) from rfl, u8_or_nat _ _ (by omega) (by omega), h _ (by omega)]
  congr 1
  omega
theorem or128_bv (m : Nat) : [Value.int .u8 (bits .or .u8 ((m : Int) % 256) 128)] = bv [128 + m % 128] := by rw [or128]; rfl

/-- A Writer in block b, its slice v, has put l. -/
def Wtr (w : World) (b : Nat) (v : Value) (l : List Nat) : Prop := w.heap[b]? = some (.cells #[v] 26 (0, 0)) ∧ w.ownsRow 0 5 1 v l.length (bv l)
/-- The row is the old one, or a new block. -/
def Moved (w : World) (v v' : Value) : Prop := v'.ownBlock = v.ownBlock ∨ ∃ g, v'.ownBlock = some g ∧ w.heap.size ≤ g
def Put (w : World) (b : Nat) (v : Value) (l : List Nat) (e : Ending) (w' : World) : Prop :=
  e = .returned (.tuple #[]) ∧ ∃ v', Wtr w' b v' l ∧ Moved w v v' ∧ Kept (fun k => k = b ∨ v.ownBlock = some k) w w'


theorem Wtr.ne {w : World} {b : Nat} {v : Value} {l : List Nat} (h : Wtr w b v l) : v.ownBlock ≠ some b := by
  rcases h.2.2 with ⟨rfl, _⟩ | ⟨g, cap, cur, rfl, _, hh, _⟩
  · simp [Value.ownBlock]
  · intro e
    have : g = b := by simpa [Value.ownBlock] using e
    subst this
    rw [h.1] at hh
    injection hh with hh
    injection hh with _ ht
    exact absurd ht (by decide)

theorem Wtr.lt {w : World} {b : Nat} {v : Value} {l : List Nat} (h : Wtr w b v l) : b < w.heap.size := lt_of_at h.1
theorem Wtr.kept {S : Nat → Prop} {w w' : World} {b : Nat} {v : Value} {l : List Nat} (h : Wtr w b v l) (k : Kept S w w') (hb : ¬ S b) (hn : ∀ g, v.ownBlock = some g → ¬ S g) : Wtr w' b v l :=
  ⟨k.at_ h.1 hb, owns_kept h.2 k hn⟩

/-- The writer's row with more at its end, stored back: from the world wr, an append from wr1 on (wr and perhaps new blocks) that leads to w1. -/
theorem put_step {w wr wr1 w1 : World} {b : Nat} {v u u' : Value} {k x : List Nat} {m : Nat} (hwr : Wtr wr b u k) (hmv : Moved w v u) (hkp : Kept (fun k => k = b ∨ v.ownBlock = some k) w wr)
    (h0 : Kept (fun _ => False) wr wr1) (hown : w1.ownsRow 0 5 1 u' m (bv k ++ bv x)) (hm : m = k.length + x.length) (hg : wr1.grownBy w1 u.ownBlock) (hat : u'.ownBlock = u.ownBlock ∨ ∃ g, u'.ownBlock = some g ∧ wr1.heap.size ≤ g) :
    w1.cell? ⟨b, 0, none⟩ = some u ∧ w1.frozen? ⟨b, 0, none⟩ = false ∧ Wtr (w1.setCell ⟨b, 0, none⟩ u') b u' (k ++ x) ∧ Moved w v u' ∧ Kept (fun k => k = b ∨ v.ownBlock = some k) w (w1.setCell ⟨b, 0, none⟩ u') := by
  have hne := hwr.ne
  have hb1 : w1.heap[b]? = some (.cells #[u] 26 (0, 0)) := by
    rw [hg.block b (Nat.lt_of_lt_of_le hwr.lt h0.size) (fun e => hne e.symm)]
    exact h0.at_ hwr.1 id
  have hmv' : Moved w v u' := by
    rcases hat with e | ⟨g, e, hge⟩
    · rcases hmv with h | ⟨g, h, hg⟩
      · exact .inl (e.trans h)
      · exact .inr ⟨g, e.trans h, hg⟩
    · exact .inr ⟨g, e, Nat.le_trans hkp.size (Nat.le_trans h0.size hge)⟩
  refine ⟨by simp [World.cell?, hb1], by simp [World.frozen?, hb1], ⟨?_, ?_⟩, hmv', ?_⟩
  · simp [World.setCell, Array.getElem?_modify, hb1]
  · rw [List.length_append, bv_append, ← hm]
    have hub : u'.ownBlock ≠ some b := by
      rcases hat with e | ⟨g, e, hge⟩
      · rw [e]; exact hne
      · rw [e]
        have := hwr.lt
        have := h0.size
        intro h
        injection h with h
        omega
    refine ⟨hown.1, ?_⟩
    rcases hown.2 with h2 | ⟨g, cap, cur, hv, hgb, hh, r⟩
    · exact .inl h2
    · refine .inr ⟨g, cap, cur, hv, hgb, ?_, r⟩
      rw [Below.heap_setCell _ _ _ _ (fun e => hub (by rw [hv]; simp [Value.ownBlock, e]))]
      exact hh
  · refine Kept.setCell (Kept.grown (hkp.trans h0 fun _ _ f => f.elim) hg fun g e hlt => ?_) (fun _ => .inl rfl) _
    rcases hmv with h | ⟨g', h, hge⟩
    · exact .inr (h.symm.trans e)
    · rw [h] at e
      injection e with e
      omega

set_option maxRecDepth 100000 in
set_option maxHeartbeats 800000 in
theorem num_any (b : Nat) (v : Value) (l : List Nat) (n : Nat) (w : World) (hw : Wtr w b v l) (hn : Fits64 n) (hl : l.length ≤ 1000000) :
    Calls Tryd.prog 12 #[.pointer (some ⟨b, 0, none⟩), .int .u64 n] w (Put w b v (l ++ vnum n)) := by
  obtain ⟨i0, hi, hz0, hz1, hz2⟩ := info_parts info5
  go_enter Tryd.func12, Tryd.ntmps12
  go_wp2
  go_loopw [1] (fun x wr => ∃ (m : Nat) (u : Value) (k : List Nat), x = .int .u64 (m : Int) ∧ Fits64 m ∧ Wtr wr b u k ∧ Hid (k ++ vnum m = l ++ vnum n) ∧ Moved w v u ∧ Kept (fun k => k = b ∨ v.ownBlock = some k) w wr)
    (fun x _ => (intOf x).toNat)
  case atStart => exact ⟨n, v, l, rfl, hn, hw, rfl, .inl rfl, Kept.refl _ _⟩
  case round =>
    obtain ⟨m, u, k, rfl, hm, hwr, hk, hmv, hkp⟩ := hrel
    obtain ⟨A, c, rfl⟩ := owns_shape hwr.2
    have hc : wr.cell? ⟨b, 0, none⟩ = some (.slice A k.length c) := by simp [World.cell?, hwr.1]
    have hf : wr.frozen? ⟨b, 0, none⟩ = false := by simp [World.frozen?, hwr.1]
    have hkl : k.length + (vnum m).length ≤ 1000010 := by
      have := congrArg List.length hk.out
      have := vnum_ten hn
      simp only [List.length_append] at *
      omega
    have hvp := vnum_pos m
    by_cases hlt : m < 128
    · go_wp2_with (at_builtin; refine wpList_append_own_at _ rfl (.tmp 24) (.tmp 27) 24 rfl 0 5 i0 (.int .u8 0) 1 1 Tryd.underlying24 hi hz0 hz1 hz2 rfl (by decide) _ k.length (bv k) rfl (hwr.2.alloc _) ⟨wr.heap.size, 0, none⟩ 1 1 (bv [m]) rfl rfl (cell_one_new _ _ _) (bv_one _) (by simp only [maxLen]; omega) (by omega) (Nat.zero_le _) ?a4)
      case a4 =>
        intro v' w1 hown hg _ hat
        obtain ⟨A', c', rfl⟩ := owns_shape hown
        have R := put_step hwr hmv hkp ((Kept.refl _ _).alloc _) hown rfl hg (hat.imp id fun h => ⟨_, h, by simp⟩)
        obtain ⟨r1, r2, r3, r4, r5⟩ := R
        clear hown hg hat hc hf hwr hmv hkp
        have R3 := Lib.hid (And.intro r3 (And.intro r4 r5))
        clear r3 r4 r5
        go_wp2
        go_end0
        obtain ⟨r3, r4, r5⟩ := R3.out
        have e := hk.out
        rw [vnum_lo hlt] at e
        rw [e] at r3
        exact ⟨rfl, _, r3, r4, r5⟩
    · go_wp2_with (at_builtin; refine wpList_append_own_at _ rfl (.tmp 10) (.tmp 14) 24 rfl 0 5 i0 (.int .u8 0) 1 1 Tryd.underlying24 hi hz0 hz1 hz2 rfl (by decide) _ k.length (bv k) rfl (hwr.2.alloc _) ⟨wr.heap.size, 0, none⟩ 1 1 [_] rfl rfl (cell_one_new _ _ _) ?b1 ?b2 ?b3 (Nat.zero_le _) ?b4)
      case b1 => rw [or128_bv]; exact bv_one _
      case b2 => simp only [maxLen]; omega
      case b3 => omega
      case b4 =>
        intro v' w1 hown hg _ hat
        rw [or128_bv] at hown
        obtain ⟨A', c', rfl⟩ := owns_shape hown
        have R := put_step hwr hmv hkp ((Kept.refl _ _).alloc _) hown rfl hg (hat.imp id fun h => ⟨_, h, by simp⟩)
        obtain ⟨r1, r2, r3, r4, r5⟩ := R
        clear hown hg hat hc hf hwr hmv hkp
        have R3 := Lib.hid (And.intro r3 (And.intro r4 r5))
        clear r3 r4 r5
        go_wp2
        go_roundw
        case rel =>
          obtain ⟨r3, r4, r5⟩ := R3.out
          have e := hk.out
          rw [vnum_hi hlt] at e
          exact ⟨m / 128, _, _, by go_num, hm.le (by omega), r3, by rw [List.append_assoc]; exact e, r4, r5⟩
        case measure => simp [intOf]; omega

/-- A slice in new memory that holds l; nothing that was there has turned. -/
def Fresh (w : World) (l : List Nat) (e : Ending) (w' : World) : Prop :=
  ∃ A c, e = .returned (.slice A l.length c) ∧ w'.ownsRow 0 5 1 (.slice A l.length c) l.length (bv l) ∧ (∀ g, (Value.slice A l.length c).ownBlock = some g → w.heap.size ≤ g) ∧ (A = none → c = 0) ∧ Kept (fun _ => False) w w'

theorem owns_nocap {w : World} {A : Option Addr} {n m c : Nat} {xs : List Value} (h : w.ownsRow 0 5 1 (.slice A n c) m xs) : A = none → c = 0 := by
  rintro rfl
  rcases h.2 with ⟨e, _⟩ | ⟨g, cap, cur, e, _⟩
  · injection e
  · cases e

set_option maxRecDepth 100000 in
set_option maxHeartbeats 800000 in
theorem clone_any (A : Option Addr) (c : Nat) (l : List Nat) (w : World) (hr : Rd w A l) (hA : A = none → c = 0) (hl : l.length ≤ 1000100) :
    Calls Tryd.prog 25 #[.slice A l.length c] w (Fresh w l) := by
  obtain ⟨i0, hi, hz0, hz1, hz2⟩ := info_parts info5
  rcases A with _ | ad
  · have hl0 : l = [] := by
      rcases l with _ | ⟨x, l⟩
      · rfl
      · obtain ⟨_, e, _⟩ := hr (by simp); cases e
    subst hl0
    obtain rfl := hA rfl
    have hq := fun (W : World) (a : Option Addr) (n c : Nat) => Lib.run_eql_slice_nil (P := Tryd.prog) W 24 5 a n c 0 0 Tryd.underlying24
    go_enter Tryd.func25, Tryd.ntmps25
    go_wp2
    go_ret
    exact ⟨none, 0, rfl, World.ownsRow_nil _ _ _ _, by simp [Value.ownBlock], fun _ => rfl, Kept.refl _ _⟩
  · have hq := fun (W : World) (a : Option Addr) (n c : Nat) => Lib.run_eql_slice_nil (P := Tryd.prog) W 24 5 a n c 0 0 Tryd.underlying24
    have hcells : ∀ (o : Obj) (j : Nat) (u : Value), (bv l)[j]? = some u → (w.alloc o).cell? (ad.add j) = some u := by
      intro o j u hu
      have hj : j < l.length := by
        have := (List.getElem?_eq_some_iff.1 hu).1
        rwa [bv_length] at this
      obtain ⟨ad', e, hb, hc⟩ := hr.at_ hj
      injection e with e
      subst e
      rw [bv_get l j hj] at hu
      rw [World.cell?_alloc_lt w o _ (by rw [add_block]; exact hb), hc]
      exact hu
    have H := Lib.hid hcells
    clear hcells
    go_enter Tryd.func25, Tryd.ntmps25
    go_wp2_with (at_builtin; refine wpList_append_own_at _ rfl (.tmp 5) (.tmp 6) 24 rfl 0 5 i0 (.int .u8 0) 1 1 Tryd.underlying24 hi hz0 hz1 hz2 rfl (by decide) (.slice (some ⟨w.heap.size, 0, none⟩) 0 0) 0 [] rfl ?a0 ad l.length c (bv l) rfl (by simp [bv]) (H.out _) (bv_one _) (by simp only [maxLen]; omega) (by omega) (Nat.zero_le _) ?a4)
    case a0 => exact ⟨by simp, .inr ⟨w.heap.size, 0, #[], rfl, Nat.zero_le _, heap_alloc_new w _, Nat.le_refl _, by simp [maxLen], by simp, by simp⟩⟩
    case a4 =>
      intro v' w1 hown hg _ hat
      obtain ⟨A', c', rfl⟩ := owns_shape hown
      have hk : Kept (fun _ => False) w w1 := ((Kept.refl _ w).alloc _).grown hg (by
        intro k e hlt
        simp [Value.ownBlock] at e
        omega)
      have hge : ∀ g, (Value.slice A' l.length c').ownBlock = some g → w.heap.size ≤ g := by
        intro g e
        rw [e] at hat
        rcases hat with h | h
        · simp [Value.ownBlock] at h; omega
        · simp at h; omega
      have R := Lib.hid (And.intro hown (And.intro hge hk))
      clear hown hg hat hge hk
      go_wp2
      go_ret
      obtain ⟨hown, hge, hk⟩ := R.out
      exact ⟨A', c', rfl, hown, hge, owns_nocap hown, hk⟩

/-- Bytes(): what was put, in new memory. -/
theorem bytes_any (b : Nat) (v : Value) (l : List Nat) (w : World) (hw : Wtr w b v l) (hl : l.length ≤ 1000100) :
    Calls Tryd.prog 15 #[.pointer (some ⟨b, 0, none⟩)] w (Fresh w l) := by
  obtain ⟨A, c, rfl⟩ := owns_shape hw.2
  have hc : w.cell? ⟨b, 0, none⟩ = some (.slice A l.length c) := by simp [World.cell?, hw.1]
  go_enter Tryd.func15, Tryd.ntmps15
  go_wp2_with (go_at_call 25; refine (clone_any _ _ _ _ (Rd.of_owns hw.2) (owns_nocap hw.2) hl).mono ?_; rintro e w1 ⟨A', c', rfl, R⟩; have R' := Lib.hid R; clear R)
  go_ret
  exact ⟨A', c', rfl, R'.out⟩

/-- Raw(b): the bytes of a slice put behind. -/
theorem raw_any (b : Nat) (v : Value) (l : List Nat) (A : Option Addr) (c : Nat) (x : List Nat) (w : World) (hw : Wtr w b v l) (hr : Rd w A x) (hA : A = none → c = 0) (hl : l.length + x.length ≤ 1000100) :
    Calls Tryd.prog 11 #[.pointer (some ⟨b, 0, none⟩), .slice A x.length c] w (Put w b v (l ++ x)) := by
  obtain ⟨i0, hi, hz0, hz1, hz2⟩ := info_parts info5
  obtain ⟨B, d, rfl⟩ := owns_shape hw.2
  have hc : w.cell? ⟨b, 0, none⟩ = some (.slice B l.length d) := by simp [World.cell?, hw.1]
  have hf : w.frozen? ⟨b, 0, none⟩ = false := by simp [World.frozen?, hw.1]
  rcases A with _ | ad
  · have hl0 : x = [] := by
      rcases x with _ | ⟨y, x⟩
      · rfl
      · obtain ⟨_, e, _⟩ := hr (by simp); cases e
    subst hl0
    obtain rfl := hA rfl
    have R := put_step (x := []) hw (.inl rfl) (Kept.refl _ w) (Kept.refl _ w) (by simpa [bv] using hw.2) (by simp) (World.grownBy.refl w _) (.inl rfl)
    obtain ⟨_, _, r3, r4, r5⟩ := R
    have R3 := Lib.hid (And.intro r3 (And.intro r4 r5))
    clear r3 r4 r5
    go_enter Tryd.func11, Tryd.ntmps11
    go_wp2_with (at_builtin; refine wpList_append_own_none rfl (.tmp 8) (.tmp 9) 24 rfl 0 5 i0 1 Tryd.underlying24 hi _ l.length (bv l) rfl hw.2 rfl ?_)
    go_end0
    obtain ⟨r3, r4, r5⟩ := R3.out
    exact ⟨rfl, _, by simpa using r3, r4, r5⟩
  · have hcells : ∀ (j : Nat) (u : Value), (bv x)[j]? = some u → w.cell? (ad.add j) = some u := by
      intro j u hu
      have hj : j < x.length := by
        have := (List.getElem?_eq_some_iff.1 hu).1
        rwa [bv_length] at this
      obtain ⟨ad', e, hb, hc⟩ := hr.at_ hj
      injection e with e
      subst e
      rw [bv_get x j hj] at hu
      rw [hc]
      exact hu
    have H := Lib.hid hcells
    clear hcells
    go_enter Tryd.func11, Tryd.ntmps11
    go_wp2_with (at_builtin; refine wpList_append_own_at _ rfl (.tmp 8) (.tmp 9) 24 rfl 0 5 i0 (.int .u8 0) 1 1 Tryd.underlying24 hi hz0 hz1 hz2 rfl (by decide) _ l.length (bv l) rfl hw.2 ad x.length c (bv x) rfl (by simp [bv]) H.out (bv_one _) (by simp only [maxLen]; omega) (by omega) (Nat.zero_le _) ?a4)
    intro v' w1 hown hg _ hat
    obtain ⟨A', c', rfl⟩ := owns_shape hown
    have R := put_step hw (.inl rfl) (Kept.refl _ w) (Kept.refl _ w) hown rfl hg (hat.imp id fun h => ⟨_, h, Nat.le_refl _⟩)
    obtain ⟨r1, r2, r3, r4, r5⟩ := R
    clear hown hg hat hc hf
    have R3 := Lib.hid (And.intro r3 (And.intro r4 r5))
    clear r3 r4 r5
    go_wp2
    go_end0
    obtain ⟨r3, r4, r5⟩ := R3.out
    exact ⟨rfl, _, r3, r4, r5⟩

/-- A Reader in block b: its bytes l in the slice (A, c), at, the error's number. -/
def Rdr (w : World) (b : Nat) (A : Option Addr) (c : Nat) (l : List Nat) (at_ err : Nat) : Prop :=
  w.heap[b]? = some (.cells #[.slice A l.length c, .int .i64 at_, .int .i64 err] 59 (0, 0)) ∧ w.ownsRow 0 5 1 (.slice A l.length c) l.length (bv l) ∧ at_ ≤ l.length
/-- A new Reader of l. -/
def NewRdr (w : World) (l : List Nat) (e : Ending) (w' : World) : Prop :=
  ∃ b A c, e = .returned (.pointer (some ⟨b, 0, none⟩)) ∧ w.heap.size ≤ b ∧ Rdr w' b A c l 0 0 ∧ (∀ g, (Value.slice A l.length c).ownBlock = some g → w.heap.size ≤ g) ∧ Kept (fun _ => False) w w'

set_option maxRecDepth 100000 in
theorem read_any (A : Option Addr) (c : Nat) (l : List Nat) (w : World) (hr : Rd w A l) (hA : A = none → c = 0) (hl : l.length ≤ 1000100) :
    Calls Tryd.prog 16 #[.slice A l.length c] w (NewRdr w l) := by
  go_enter Tryd.func16, Tryd.ntmps16
  go_wp2_with (go_at_call 25; refine (clone_any _ _ _ _ hr hA hl).mono ?_; rintro e w1 ⟨A', c', rfl, R⟩; have R' := Lib.hid R; clear R)
  go_ret
  obtain ⟨hown, hge, _, hk⟩ := R'.out
  exact ⟨_, A', c', rfl, hk.size, ⟨heap_alloc_new w1 _, hown.alloc _, Nat.zero_le _⟩, hge, hk.alloc _⟩
end Go.Proofs.YtpjmefbbfgpaiaaDoor
