/- The document's long and Token: how many bytes of a kind stand ahead; the token that a text begins with. -/
import Derived.Test.YtphjjlmjggjodaaDoorTa
set_option linter.unusedSimpArgs false
set_option linter.unusedVariables false
namespace Go.Proofs.YtphjjlmjggjodaaDoor
open Go.RowKit Ieee

def kf (d : Bool) (c : UInt8) : Bool := if d then isDi c else isWo c
def klen (d : Bool) (l : List UInt8) : Nat := (l.takeWhile (kf d)).length
theorem klen_d (l : List UInt8) : klen true l = dlen l := rfl
theorem klen_w (l : List UInt8) : klen false l = wlen l := rfl
theorem list_at {s : ByteArray} {k : Nat} (h : k < s.size) : s.data.toList[k]? = some s[k] := by
  rw [List.getElem?_eq_getElem (by rw [size_len]; exact h)]; rfl
theorem run_at (f : UInt8 → Bool) {s : ByteArray} {k : Nat} (h1 : k < s.size) (h : k ≤ (s.data.toList.takeWhile f).length) :
    (f s[k] = true → k + 1 ≤ (s.data.toList.takeWhile f).length) ∧ (f s[k] = false → (s.data.toList.takeWhile f).length = k) := by
  have hw := tw_at f s.data.toList k h
  rw [list_at h1] at hw
  constructor
  · intro hf
    exact hw.2 ⟨_, rfl, hf⟩
  · intro hf
    have : ¬ (k < (s.data.toList.takeWhile f).length) := by
      intro hx
      obtain ⟨c, hc, hc'⟩ := hw.1 hx
      injection hc with hc
      rw [← hc, hf] at hc'
      cases hc'
    omega

set_option maxRecDepth 100000 in
set_option maxHeartbeats 3200000 in
theorem long_any (s : ByteArray) (d : Bool) (hs : s.size ≤ 20000) (w : World) : Calls Tryd.prog 30 #[.string s, .bool d] w (Num w (klen d s.data.toList)) := by
  obtain ⟨M, hM⟩ : ∃ M, klen d s.data.toList = M := ⟨_, rfl⟩
  have hMl : M ≤ s.size := by rw [← hM, ← size_len]; exact tw_len _ _
  have HM := Lib.hid hM
  rw [hM]
  clear hM
  cases d with
  | true =>
    go_enter Tryd.func30, Tryd.ntmps30
    go_wp2
    go_loop [8] (fun i => ∃ k : Nat, k ≤ s.size ∧ k ≤ M ∧ i = .int .i64 (k : Int)) (fun i => s.size - (intOf i).toNat)
    case atStart => exact ⟨0, Nat.zero_le _, Nat.zero_le _, rfl⟩
    case round =>
      obtain ⟨k, hk, hkM, rfl⟩ := hrel
      by_cases hlt : k < s.size
      · have hra := run_at (kf true) hlt (by rw [show (s.data.toList.takeWhile (kf true)).length = M from HM.out]; exact hkM)
        rw [show (s.data.toList.takeWhile (kf true)).length = M from HM.out] at hra
        have e1 : isDi s[k] = (decide (48 ≤ s[k].toNat) && decide (s[k].toNat ≤ 57)) := rfl
        by_cases hc : 48 ≤ s[k].toNat ∧ s[k].toNat ≤ 57
        · have h1 := hra.1 (by show isDi s[k] = true; rw [e1]; simp [hc])
          have q1 : ¬ (s[k].toNat : Int) < 48 := by omega
          have q2 : ¬ (57 : Int) < (s[k].toNat : Int) := by omega
          clear hra e1 hc
          go_wp2
          go_round
          case rel => exact ⟨k + 1, by omega, h1, by go_num⟩
          case measure => simp [intOf]; omega
        · have h1 := hra.2 (by show isDi s[k] = false; rw [e1]; simp; omega)
          have HE := Lib.hid h1
          clear hra e1 h1
          by_cases q1 : (s[k].toNat : Int) < 48
          · clear hc
            go_wp2
            go_ret
            exact Num.of (by rw [HE.out])
          · have q2 : (57 : Int) < (s[k].toNat : Int) := by omega
            clear hc
            go_wp2
            go_ret
            exact Num.of (by rw [HE.out])
      · have hM2 : M = s.size := by omega
        have HE := Lib.hid hM2
        clear hM2
        go_wp2
        go_ret
        exact Num.of (by rw [HE.out])
  | false =>
    have hwd := fun c w => word_any c false w
    go_enter Tryd.func30, Tryd.ntmps30
    go_wp2
    go_loop [8] (fun i => ∃ k : Nat, k ≤ s.size ∧ k ≤ M ∧ i = .int .i64 (k : Int)) (fun i => s.size - (intOf i).toNat)
    case atStart => exact ⟨0, Nat.zero_le _, Nat.zero_le _, rfl⟩
    case round =>
      obtain ⟨k, hk, hkM, rfl⟩ := hrel
      by_cases hlt : k < s.size
      · have hra := run_at (kf false) hlt (by rw [show (s.data.toList.takeWhile (kf false)).length = M from HM.out]; exact hkM)
        rw [show (s.data.toList.takeWhile (kf false)).length = M from HM.out] at hra
        have hw := hwd s[k]
        cases hc : isWo s[k] with
        | true =>
          have h1 := hra.1 hc
          rw [wf_false, hc] at hw
          clear hra hc hwd
          go_wp2_with (go_at_call 29; refine (hw _).mono ?_; rintro e w' ⟨rfl, rfl⟩)
          go_round
          case rel => exact ⟨k + 1, by omega, h1, by go_num⟩
          case measure => simp [intOf]; omega
        | false =>
          have h1 := hra.2 hc
          have HE := Lib.hid h1
          rw [wf_false, hc] at hw
          clear hra hc hwd h1
          go_wp2_with (go_at_call 29; refine (hw _).mono ?_; rintro e w' ⟨rfl, rfl⟩)
          go_ret
          exact Num.of (by rw [HE.out])
      · have hM2 : M = s.size := by omega
        have HE := Lib.hid hM2
        clear hM2 hwd
        go_wp2
        go_ret
        exact Num.of (by rw [HE.out])

/-- What Token answers. -/
def TokR (w : World) (r : Except Nat (Nat × Nat × Nat × Nat)) (e : Ending) (w' : World) : Prop :=
  match r with
  | .error c => e = .returned (.tuple #[.int .i64 0, .int .i64 0, .complex .f64 0 0, .int .i64 (c : Int)]) ∧ w = w'
  | .ok (k, n, x, y) => e = .returned (.tuple #[.int .i64 (k : Int), .int .i64 (n : Int), .complex .f64 (fl false (x : Int)) (fl false (y : Int)), .int .i64 0]) ∧ w = w'

set_option maxRecDepth 100000 in
set_option maxHeartbeats 3200000 in
theorem token_word (s : ByteArray) (h0 : 0 < s.size) (hs : s.size ≤ 20000) (h1 : isDi s[0] = false) (h2 : isWo s[0] = true) (w : World) : Calls Tryd.prog 19 #[.string s] w (TokR w (tok s.data.toList)) := by
  have hd := drop_at h0
  rw [List.drop_zero] at hd
  have ht : tok s.data.toList = .ok (1, wlen s.data.toList, 0, 0) := by rw [hd]; unfold tok; simp [h1, h2]
  rw [ht]
  have hw := word_any s[0] true
  rw [wf_true, h1, h2] at hw
  have hl := long_any s false hs
  rw [klen_w] at hl
  generalize wlen s.data.toList = n at *
  have f0 : fl false ((0 : Nat) : Int) = 0 := fl0
  have F0 := Lib.hid f0
  clear hd ht h1 h2 f0
  go_enter Tryd.func19, Tryd.ntmps19
  go_wp2_with (first
    | (go_at_call 29; refine (hw _).mono ?_; rintro e w' ⟨rfl, rfl⟩)
    | (go_at_call 30; refine (hl _).mono ?_; rintro e w' ⟨rfl, rfl⟩))
  refine bodyPost_ret (v := .tuple #[.int .i64 1, .int .i64 (n : Int), .complex .f64 0 0, .int .i64 0]) (by simp [results, Tryd.results19, go_sem]) rfl ⟨?_, rfl⟩
  rw [F0.out]
  rfl
end Go.Proofs.YtphjjlmjggjodaaDoor
