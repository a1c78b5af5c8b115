/- The reader's Raw. -/
import Derived.Test.YtpjmefbbfgpaiaaDoorRr
import Derived.Deep.RegionWith
namespace Go.Proofs.YtpjmefbbfgpaiaaDoor
open Go.RowKit

set_option maxRecDepth 100000 in
theorem rdraw_err (b : Nat) (A : Option Addr) (c : Nat) (l : List Nat) (at_ err : Nat) (n : Int) (w : World) (h : Rdr w b A c l at_ err) (he : err ≠ 0) :
    Calls Tryd.prog 17 #[.pointer (some ⟨b, 0, none⟩), .int .i64 n] w (Took w b A c l at_ err (.slice none 0 0)) := by
  have h2 : w.cell? ⟨b, 2, none⟩ = some (.int .i64 (err : Int)) := by simp [World.cell?, h.1]
  have hn : ((err : Int) != 0) = true := by rw [bne_iff_ne]; omega
  have HH := Lib.hid h
  clear h
  go_enter Tryd.func17, Tryd.ntmps17
  go_wp2
  go_ret
  exact ⟨rfl, HH.out, Kept.refl _ _⟩

/-- Only the error is set. -/
theorem Rdr.setErr {w : World} {b : Nat} {A : Option Addr} {c : Nat} {l : List Nat} {at_ err err' : Nat} (h : Rdr w b A c l at_ err) :
    Rdr (w.setCell ⟨b, 2, none⟩ (.int .i64 (err' : Int))) b A c l at_ err' ∧ Kept (fun k => k = b) w (w.setCell ⟨b, 2, none⟩ (.int .i64 (err' : Int))) := by
  have k : Kept (fun k => k = b) w (w.setCell ⟨b, 2, none⟩ (.int .i64 (err' : Int))) := (Kept.refl (fun k => k = b) w).setCell (p := ⟨b, 2, none⟩) (fun _ => rfl) _
  refine ⟨⟨?_, owns_kept h.2.1 k (fun g e e2 => h.ne (by rw [e, e2])), h.2.2⟩, k⟩
  simp [World.setCell, Array.getElem?_modify, h.1]
theorem Rdr.setAt {w : World} {b : Nat} {A : Option Addr} {c : Nat} {l : List Nat} {at_ err at' : Nat} (h : Rdr w b A c l at_ err) (ha : at' ≤ l.length) :
    Rdr (w.setCell ⟨b, 1, none⟩ (.int .i64 (at' : Int))) b A c l at' err ∧ Kept (fun k => k = b) w (w.setCell ⟨b, 1, none⟩ (.int .i64 (at' : Int))) := by
  have k : Kept (fun k => k = b) w (w.setCell ⟨b, 1, none⟩ (.int .i64 (at' : Int))) := (Kept.refl (fun k => k = b) w).setCell (p := ⟨b, 1, none⟩) (fun _ => rfl) _
  refine ⟨⟨?_, owns_kept h.2.1 k (fun g e e2 => h.ne (by rw [e, e2])), ha⟩, k⟩
  simp [World.setCell, Array.getElem?_modify, h.1]
theorem Rdr.drewN {w : World} {b : Nat} {A : Option Addr} {c : Nat} {l : List Nat} {at_ err : Nat} (h : Rdr w b A c l at_ err) (n : Nat) : Rdr (w.drewN n) b A c l at_ err := h
theorem Rdr.kept {S : Nat → Prop} {w w' : World} {b : Nat} {A : Option Addr} {c : Nat} {l : List Nat} {at_ err : Nat} (h : Rdr w b A c l at_ err) (k : Kept S w w') (hb : ¬ S b) (hn : ∀ g, (Value.slice A l.length c).ownBlock = some g → ¬ S g) : Rdr w' b A c l at_ err :=
  ⟨k.at_ h.1 hb, owns_kept h.2.1 k hn, h.2.2⟩

set_option maxRecDepth 100000 in
set_option maxHeartbeats 1600000 in
theorem rdraw_bad (b : Nat) (A : Option Addr) (c : Nat) (l : List Nat) (at_ : Nat) (n : Int) (w : World) (h : Rdr w b A c l at_ 0) (hl : l.length ≤ 1000100) (hn : n < 0 ∨ ((l.length - at_ : Nat) : Int) < n) :
    Calls Tryd.prog 17 #[.pointer (some ⟨b, 0, none⟩), .int .i64 n] w (Took w b A c l at_ 3 (.slice none 0 0)) := by
  have h2 : w.cell? ⟨b, 2, none⟩ = some (.int .i64 0) := by simp [World.cell?, h.1]
  have f2 : w.frozen? ⟨b, 2, none⟩ = false := by simp [World.frozen?, h.1]
  have HH := Lib.hid h
  clear h
  by_cases hneg : n < 0
  · clear hn
    go_enter Tryd.func17, Tryd.ntmps17
    go_wp2
    go_ret
    exact ⟨rfl, (HH.out.setErr (err' := 3)).1, (HH.out.setErr (err' := 3)).2⟩
  · have hgt : ((l.length - at_ : Nat) : Int) < n := by omega
    clear hn
    go_enter Tryd.func17, Tryd.ntmps17
    go_wp2_with fail
    refine (left_any _ _ _ _ _ _ _ HH.out hl).mono ?_
    rintro e w1 ⟨rfl, q, rfl⟩
    generalize l.length - at_ = m at *
    go_wp2
    go_ret
    exact ⟨rfl, ((HH.out.drewN q).setErr (err' := 3)).1, ((Kept.refl _ _).drewN q).trans ((HH.out.drewN q).setErr (err' := 3)).2 (fun _ _ h => h)⟩

/-- Clone, its length told apart. -/
def FreshN (w : World) (n : Nat) (l : List Nat) (e : Ending) (w' : World) : Prop :=
  ∃ A c, e = .returned (.slice A n c) ∧ w'.ownsRow 0 5 1 (.slice A n c) n (bv l) ∧ (∀ g, (Value.slice A n c).ownBlock = some g → w.heap.size ≤ g) ∧ (A = none → c = 0) ∧ Kept (fun _ => False) w w'
theorem clone_n (A : Option Addr) (n c : Nat) (l : List Nat) (w : World) (hn : n = l.length) (hr : Rd w A l) (hA : A = none → c = 0) (hl : l.length ≤ 1000100) : Calls Tryd.prog 25 #[.slice A n c] w (FreshN w n l) := by
  subst hn
  exact clone_any A c l w hr hA hl

def RawTook (w : World) (b : Nat) (A : Option Addr) (c : Nat) (l : List Nat) (at_ k : Nat) (e : Ending) (w' : World) : Prop :=
  ∃ A' c', e = .returned (.slice A' k c') ∧ Rdr w' b A c l (at_ + k) 0 ∧ w'.ownsRow 0 5 1 (.slice A' k c') k (bv ((l.drop at_).take k)) ∧ (∀ g, (Value.slice A' k c').ownBlock = some g → w.heap.size ≤ g) ∧ (A' = none → c' = 0) ∧ Kept (fun k => k = b) w w'

set_option maxRecDepth 100000 in
set_option maxHeartbeats 1600000 in
theorem rdraw_ok (b : Nat) (A : Option Addr) (c : Nat) (l : List Nat) (at_ k : Nat) (w : World) (h : Rdr w b A c l at_ 0) (hl : l.length ≤ 1000100) (hk : k ≤ l.length - at_) :
    Calls Tryd.prog 17 #[.pointer (some ⟨b, 0, none⟩), .int .i64 (k : Int)] w (RawTook w b A c l at_ k) := by
  have h1 : w.cell? ⟨b, 1, none⟩ = some (.int .i64 (at_ : Int)) := by simp [World.cell?, h.1]
  have h0 : w.cell? ⟨b, 0, none⟩ = some (.slice A l.length c) := by simp [World.cell?, h.1]
  have h2 : w.cell? ⟨b, 2, none⟩ = some (.int .i64 0) := by simp [World.cell?, h.1]
  have f1 : w.frozen? ⟨b, 1, none⟩ = false := by simp [World.frozen?, h.1]
  have hal := h.2.2
  have hcap := owns_cap h.2.1
  have HH := Lib.hid h
  clear h
  go_enter Tryd.func17, Tryd.ntmps17
  go_wp2_with fail
  refine (left_any _ _ _ _ _ _ _ HH.out hl).mono ?_
  rintro e w1 ⟨rfl, q, rfl⟩
  have e1 : ((l.length - at_ : Nat) : Int) = (l.length : Int) - (at_ : Int) := by omega
  rw [e1]
  clear e1
  have hd1 : decide ((k : Int) < 0) = false := by simp
  have hd2 : decide ((l.length : Int) - (at_ : Int) < (k : Int)) = false := by simp; omega
  have R := (HH.out.drewN q).setAt (at' := at_ + k) (by omega)
  rw [Int.natCast_add] at R
  obtain ⟨R1, R2⟩ := R
  have K2 := Lib.hid (((Kept.refl (fun k => k = b) w).drewN q).trans R2 (fun _ _ h => h))
  have H2 := Lib.hid R1
  clear R1 R2
  go_wp2
  clear h0 h1 h2 f1
  generalize hw2 : (w.drewN q).setCell { block := b, off := 1 } (Value.int IntKind.i64 ((at_ : Int) + (k : Int))) = w2 at *
  clear hw2
  have h0 : w2.cell? ⟨b, 0, none⟩ = some (.slice A l.length c) := by simp [World.cell?, H2.out.1]
  have h1 : w2.cell? ⟨b, 1, none⟩ = some (.int .i64 ((at_ : Int) + (k : Int))) := by simp [World.cell?, H2.out.1]
  have hA := owns_nocap H2.out.2.1
  have hrd := (H2.out.2.1 : w2.ownsRow 0 5 1 (.slice A l.length c) l.length (bv l))
  have HA := Lib.hid hA
  have HR := Lib.hid (Rd.of_owns hrd)
  have z2 := K2.out.size
  clear hA hrd
  by_cases hca : c = at_
  · subst hca
    have hk0 : k = 0 := by omega
    have L0 : Hid ((l.drop c).take k = []) := by rw [Hid, hk0]; rfl
    go_region_with (go_at_call 25; refine (clone_n A 0 0 [] _ rfl (Rd.nil _ _) (fun _ => rfl) (by simp)).mono ?_; rintro e w3 ⟨A', c', rfl, R⟩; have R' := Lib.hid R; clear R)
    all_goals
      go_wp2
      go_ret
      obtain ⟨o1, o2, o3, o4⟩ := R'.out
      subst hk0
      exact ⟨A', c', rfl, H2.out.kept (((Kept.refl (fun _ => False) w2).drew).trans o4 (fun _ _ h => h)) id (fun _ _ h => h), by rw [L0.out]; exact o1, fun g e => Nat.le_trans z2 (o2 g e), o3, K2.out.trans (((Kept.refl (fun _ => False) w2).drew).trans o4 (fun _ _ h => h)) (fun _ _ h => h.elim)⟩
  · have hd : Rd w2.drew (Option.map (fun x => x.add at_) A) ((l.drop at_).take k) := by
      have := (HR.out.drop at_ hcap).take k
      rw [if_neg hca] at this
      exact this
    have HD := Lib.hid hd
    clear hd
    go_region_with (go_at_call 25; refine (clone_n _ k (c - at_) ((l.drop at_).take k) _ (by simp; omega) HD.out (by intro h; have := HA.out (by simpa using h); omega) (by simp; omega)).mono ?_; rintro e w3 ⟨A', c', rfl, R⟩; have R' := Lib.hid R; clear R)
    all_goals
      go_wp2
      go_ret
      obtain ⟨o1, o2, o3, o4⟩ := R'.out
      exact ⟨A', c', rfl, H2.out.kept (((Kept.refl (fun _ => False) w2).drew).trans o4 (fun _ _ h => h)) id (fun _ _ h => h), o1, fun g e => Nat.le_trans z2 (o2 g e), o3, K2.out.trans (((Kept.refl (fun _ => False) w2).drew).trans o4 (fun _ _ h => h)) (fun _ _ h => h.elim)⟩
end Go.Proofs.YtpjmefbbfgpaiaaDoor
