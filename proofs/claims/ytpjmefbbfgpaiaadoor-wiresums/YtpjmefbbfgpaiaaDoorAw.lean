/- Awake: the fixed fact of chapter 1's example holds. -/
import Derived.Test.YtpjmefbbfgpaiaaDoorSm
import Derived.Lib.SmallJoins
import Derived.Lib.SlBytesConst
namespace Go.Proofs.YtpjmefbbfgpaiaaDoor
open Go.RowKit

/-- True comes back; nothing that was there has turned. -/
def Yes (w : World) (e : Ending) (w' : World) : Prop := e = .returned (.bool true) ∧ Kept (fun _ => False) w w'

theorem vnum_300 : vnum 300 = [172, 2] := by rw [vnum_hi (by omega), vnum_lo (by omega)]
theorem sum_nine : sumOf [49, 50, 51, 52, 53, 54, 55, 56, 57] = 3421780262 := by decide +kernel

theorem put_new (w : World) : Wtr (w.alloc (.cells #[.slice none 0 0] 26)) w.heap.size (.slice none 0 0) [] := ⟨heap_alloc_new w _, World.ownsRow_nil _ _ _ _⟩

set_option maxRecDepth 100000 in
set_option maxHeartbeats 1600000 in
theorem awake_any (w : World) (ht : Tab w) : Calls Tryd.prog 10 #[] w (Yes w) := by
  go_enter Tryd.func10, Tryd.ntmps10
  go_wp2_with fail
  refine (num_any w.heap.size _ _ 300 _ (put_new w) (by unfold Fits64; omega) (by simp)).mono ?_
  rintro e w1 ⟨rfl, v1, hw1, hm1, hk1⟩
  rw [List.nil_append, vnum_300] at hw1
  have k1 : Kept (fun _ => False) w w1 := ((Kept.refl _ w).alloc _).trans hk1 (by
    rintro i hi (rfl | h)
    · omega
    · simp [Value.ownBlock] at h)
  have H1 := Lib.hid hw1
  have K1 := Lib.hid k1
  clear hw1 hm1 hk1 k1
  go_wp2_with fail
  refine (read_any none 0 [] _ (Rd.nil _ _) (fun _ => rfl) (by simp)).mono ?_
  rintro e w2 ⟨b2, A2, c2, rfl, hb2, hr2, hg2, hk2⟩
  have K2 := Lib.hid (K1.out.trans hk2 (fun _ _ h => h))
  have H2 := Lib.hid (H1.out.kept hk2 id (fun _ _ h => h))
  clear hb2 hr2 hg2 hk2 H1 K1
  go_wp2_with fail
  refine (bytes_any _ _ _ _ H2.out (by simp)).mono ?_
  rintro e w3 ⟨A3, c3, rfl, ho3, hg3, hc3, hk3⟩
  have K3 := Lib.hid (K2.out.trans hk3 (fun _ _ h => h))
  have R3 := Lib.hid (Rd.of_owns ho3)
  clear ho3 hg3 hc3 hk3 K2 H2
  go_wp2_with fail
  refine (equal_any A3 (some ⟨w3.heap.size, 0, none⟩) c3 2 [172, 2] [172, 2] _ (R3.out.kept ((Kept.refl (fun _ => False) w3).alloc _) (fun _ _ h => h)) ?_ (by simp) (by simp)).mono ?_
  · intro _
    refine ⟨_, rfl, by simp, ?_⟩
    intro j hj
    match j, hj with
    | 0, _ => simp [Addr.add]
    | 1, _ => simp [Addr.add]
  rintro e w4 ⟨rfl, q, hq⟩
  have K4 : Hid (Kept (fun _ => False) w w4) := by
    rw [hq]
    exact Kept.drewN (Kept.alloc K3.out _) _
  rw [sameB_of rfl]
  clear hq K3 R3
  have kc := fun (w : World) (C : Array Value) (n c : Nat) => Lib.run_convert_bytes_const (P := Tryd.prog) w 24 5 C n c Tryd.underlying24 Tryd.underlying5
  have T4 := Lib.hid (ht.kept K4.out id)
  go_wp2_with fail
  refine (sum_any (some ⟨w4.heap.size, 0, none⟩) 9 [49, 50, 51, 52, 53, 54, 55, 56, 57] _ ?_ (T4.out.kept ((Kept.refl (fun _ => False) w4).alloc _) id) (by simp) (by decide)).mono ?_
  · intro _
    refine ⟨_, rfl, by simp, ?_⟩
    intro j hj
    have h9 : j < 9 := hj
    rw [show (⟨w4.heap.size, 0, none⟩ : Addr).add j = ⟨w4.heap.size, j, none⟩ by unfold Addr.add; split <;> simp_all]
    rw [World.cell?_alloc_mark]
    match j, h9 with
    | 0, _ | 1, _ | 2, _ | 3, _ | 4, _ | 5, _ | 6, _ | 7, _ | 8, _ => rfl
  rw [sum_nine]
  rintro e w5 ⟨rfl, rfl⟩
  have hb : (((3421780262 : Nat) : Int) == 3421780262) = true := by decide
  go_wp2
  go_ret
  exact ⟨rfl, Kept.alloc K4.out _⟩
end Go.Proofs.YtpjmefbbfgpaiaaDoor
