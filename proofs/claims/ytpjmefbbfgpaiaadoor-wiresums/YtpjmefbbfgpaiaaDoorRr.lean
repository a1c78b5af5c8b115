/- The reader's calls: Num, Raw, At, Left, Err. -/
import Derived.Test.YtpjmefbbfgpaiaaDoorFn
namespace Go.Proofs.YtpjmefbbfgpaiaaDoor
open Go.RowKit

theorem vgo_count (r : List Nat) : ∀ i n, (vgo i n r).2.1 ≤ i + r.length := by
  induction r with
  | nil => intro i n; simp [vgo]
  | cons c r ih =>
    intro i n
    rw [vgo]
    split
    · simp
    · split
      · simp
      · have := ih (i + 1) (n + c % 128 * 128 ^ i)
        simp only [List.length_cons]
        omega
theorem vread_count (l : List Nat) : (vread l).2.1 ≤ l.length := by have := vgo_count l 0 0; simpa [vread] using this

theorem firstNum_same (A : Option Addr) (n c0 : Nat) (l : List Nat) (w : World) (hn : n = l.length) (hr : Rd w A l) (hl : l.length ≤ 1000100) (hby : ∀ b ∈ l, b < 256) :
    Calls Tryd.prog 27 #[.slice A n c0] w fun e w' => e = .returned (.tuple #[.int .u64 ((vread l).1 : Int), .int .i64 ((vread l).2.1 : Int), .int .i64 ((vread l).2.2 : Int)]) ∧ w' = w := by
  subst hn
  exact (firstNum_any A c0 l w hr hl hby).mono fun e w' ⟨h1, h2⟩ => ⟨h1, h2.symm⟩

theorem owns_cap {w : World} {A : Option Addr} {n c : Nat} {xs : List Value} (h : w.ownsRow 0 5 1 (.slice A n c) n xs) : n ≤ c := by
  rcases h.2 with ⟨e, h0⟩ | ⟨g, cap, cur, e, _, _, hc, _⟩
  · omega
  · injection e with _ _ e; omega
theorem Rdr.rd {w : World} {b : Nat} {A : Option Addr} {c : Nat} {l : List Nat} {at_ err : Nat} (h : Rdr w b A c l at_ err) (n : Nat) : Rd (w.drewN n) (if c = at_ then A else Option.map (fun x => x.add at_) A) (l.drop at_) :=
  Rd.drop (Rd.of_owns h.2.1) at_ (owns_cap h.2.1)
theorem Rdr.ne {w : World} {b : Nat} {A : Option Addr} {c : Nat} {l : List Nat} {at_ err : Nat} (h : Rdr w b A c l at_ err) : (Value.slice A l.length c).ownBlock ≠ some b := by
  rcases h.2.1.2 with ⟨e, _⟩ | ⟨g, cap, cur, e, _, hh, _⟩
  · rw [e]; simp [Value.ownBlock]
  · rw [e]
    intro e2
    have : g = b := by simpa [Value.ownBlock] using e2
    subst this
    rw [h.1] at hh
    injection hh with hh
    injection hh with _ ht
    exact absurd ht (by decide)
/-- The reader's two numbers set anew, after draws. -/
theorem Rdr.set_ {w : World} {b : Nat} {A : Option Addr} {c : Nat} {l : List Nat} {at_ err at' err' : Nat} (h : Rdr w b A c l at_ err) (ha : at' ≤ l.length) (n : Nat) :
    Rdr (((w.drewN n).setCell ⟨b, 1, none⟩ (.int .i64 (at' : Int))).setCell ⟨b, 2, none⟩ (.int .i64 (err' : Int))) b A c l at' err' ∧ Kept (fun k => k = b) w (((w.drewN n).setCell ⟨b, 1, none⟩ (.int .i64 (at' : Int))).setCell ⟨b, 2, none⟩ (.int .i64 (err' : Int))) := by
  have k : Kept (fun k => k = b) w (((w.drewN n).setCell ⟨b, 1, none⟩ (.int .i64 (at' : Int))).setCell ⟨b, 2, none⟩ (.int .i64 (err' : Int))) :=
    (((Kept.refl (fun k => k = b) w).drewN n).setCell (p := ⟨b, 1, none⟩) (fun _ => rfl) _).setCell (p := ⟨b, 2, none⟩) (fun _ => rfl) _
  refine ⟨⟨?_, owns_kept h.2.1 k (fun g e e2 => h.ne (by rw [e, e2])), ha⟩, k⟩
  simp [World.setCell, Array.getElem?_modify, h.1]

/-- Behind a call of the reader: it answers v, and stands at (at, err). -/
def Took (w : World) (b : Nat) (A : Option Addr) (c : Nat) (l : List Nat) (at_ err : Nat) (v : Value) (e : Ending) (w' : World) : Prop :=
  e = .returned v ∧ Rdr w' b A c l at_ err ∧ Kept (fun k => k = b) w w'

set_option maxRecDepth 100000 in
set_option maxHeartbeats 1600000 in
theorem rdnum_any (b : Nat) (A : Option Addr) (c : Nat) (l : List Nat) (at_ : Nat) (w : World) (h : Rdr w b A c l at_ 0) (hl : l.length ≤ 1000100) (hby : ∀ b ∈ l, b < 256) :
    Calls Tryd.prog 18 #[.pointer (some ⟨b, 0, none⟩)] w (Took w b A c l (at_ + (vread (l.drop at_)).2.1) (vread (l.drop at_)).2.2 (.int .u64 ((vread (l.drop at_)).1 : Int))) := by
  have h0 : w.cell? ⟨b, 0, none⟩ = some (.slice A l.length c) := by simp [World.cell?, h.1]
  have h1 : w.cell? ⟨b, 1, none⟩ = some (.int .i64 (at_ : Int)) := by simp [World.cell?, h.1]
  have h2 : w.cell? ⟨b, 2, none⟩ = some (.int .i64 0) := by simp [World.cell?, h.1]
  have f1 : w.frozen? ⟨b, 1, none⟩ = false := by simp [World.frozen?, h.1]
  have f2 : w.frozen? ⟨b, 2, none⟩ = false := by simp [World.frozen?, h.1]
  have hal := h.2.2
  have HH := Lib.hid h
  have HB := Lib.hid hby
  clear h hby
  go_enter Tryd.func18, Tryd.ntmps18
  have hv := vread_count (l.drop at_)
  rw [List.length_drop] at hv
  have hcall := fun n => firstNum_same (if c = at_ then A else Option.map (fun x => x.add at_) A) (l.length - at_) (c - at_) (l.drop at_) (w.drewN n) (by simp) (HH.out.rd n) (by simp; omega) (fun b hb => HB.out b (List.mem_of_mem_drop hb))
  generalize vread (l.drop at_) = r at *
  obtain ⟨x, k, y⟩ := r
  simp only at hv hcall ⊢
  have HC := Lib.hid hcall
  clear hcall
  go_wp2
  go_quiet ((go_at_call 27; exact Calls.quiet_of_same (HC.out _)))
  go_wp2
  all_goals
    have R := HH.out.set_ (at' := at_ + k) (err' := y) (by omega) nq
    rw [Int.natCast_add] at R
    go_ret
    first
      | exact ⟨rfl, R.1, R.2⟩
      | (have ec : c = at_ := by assumption
         rw [ec] at R
         exact ⟨rfl, R.1, R.2⟩)

set_option maxRecDepth 100000 in
theorem rdnum_err (b : Nat) (A : Option Addr) (c : Nat) (l : List Nat) (at_ err : Nat) (w : World) (h : Rdr w b A c l at_ err) (he : err ≠ 0) :
    Calls Tryd.prog 18 #[.pointer (some ⟨b, 0, none⟩)] w (Took w b A c l at_ err (.int .u64 0)) := by
  have h2 : w.cell? ⟨b, 2, none⟩ = some (.int .i64 (err : Int)) := by simp [World.cell?, h.1]
  have hn : ((err : Int) != 0) = true := by rw [bne_iff_ne]; omega
  have HH := Lib.hid h
  clear h
  go_enter Tryd.func18, Tryd.ntmps18
  go_wp2
  go_ret
  exact ⟨rfl, HH.out, Kept.refl _ _⟩

set_option maxRecDepth 100000 in
theorem left_any (b : Nat) (A : Option Addr) (c : Nat) (l : List Nat) (at_ err : Nat) (w : World) (h : Rdr w b A c l at_ err) (hl : l.length ≤ 1000100) :
    Calls Tryd.prog 19 #[.pointer (some ⟨b, 0, none⟩)] w fun e w' => e = .returned (.int .i64 ((l.length - at_ : Nat) : Int)) ∧ ∃ q, w' = w.drewN q := by
  have h0 : w.cell? ⟨b, 0, none⟩ = some (.slice A l.length c) := by simp [World.cell?, h.1]
  have h1 : w.cell? ⟨b, 1, none⟩ = some (.int .i64 (at_ : Int)) := by simp [World.cell?, h.1]
  have hal := h.2.2
  have HH := Lib.hid h
  clear h
  have e : ((l.length - at_ : Nat) : Int) = (l.length : Int) - (at_ : Int) := by omega
  rw [e]
  clear e
  go_enter Tryd.func19, Tryd.ntmps19
  go_wp2
  go_quiet (fail)
  go_wp2
  go_ret
  exact ⟨rint (by simp), _, rfl⟩
set_option maxRecDepth 100000 in
theorem err_any (b : Nat) (A : Option Addr) (c : Nat) (l : List Nat) (at_ err : Nat) (w : World) (h : Rdr w b A c l at_ err) :
    Calls Tryd.prog 20 #[.pointer (some ⟨b, 0, none⟩)] w fun e w' => e = .returned (.int .i64 (err : Int)) ∧ w' = w := by
  have h2 : w.cell? ⟨b, 2, none⟩ = some (.int .i64 (err : Int)) := by simp [World.cell?, h.1]
  clear h
  go_enter Tryd.func20, Tryd.ntmps20
  go_wp2
  go_ret
  exact ⟨rfl, rfl⟩
set_option maxRecDepth 100000 in
theorem at_any (b : Nat) (A : Option Addr) (c : Nat) (l : List Nat) (at_ err : Nat) (w : World) (h : Rdr w b A c l at_ err) :
    Calls Tryd.prog 21 #[.pointer (some ⟨b, 0, none⟩)] w fun e w' => e = .returned (.int .i64 (at_ : Int)) ∧ w' = w := by
  have h2 : w.cell? ⟨b, 1, none⟩ = some (.int .i64 (at_ : Int)) := by simp [World.cell?, h.1]
  clear h
  go_enter Tryd.func21, Tryd.ntmps21
  go_wp2
  go_ret
  exact ⟨rfl, rfl⟩
end Go.Proofs.YtpjmefbbfgpaiaaDoor
