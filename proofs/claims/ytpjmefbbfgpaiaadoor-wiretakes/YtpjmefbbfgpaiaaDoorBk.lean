/- The law WireBack, walked: true at any items. -/
import Derived.Test.YtpjmefbbfgpaiaaDoorPt
import Derived.Test.YtpjmefbbfgpaiaaDoorOn
namespace Go.Proofs.YtpjmefbbfgpaiaaDoor
open Go.RowKit

/-- A writer of the call's own. -/
structure WInv (w wr : World) (bw : Nat) (u : Value) (l : List Nat) : Prop where
  wt : Wtr wr bw u l
  ub : ∀ g, u.ownBlock = some g → w.heap.size ≤ g
  bb : w.heap.size ≤ bw
  kp : Kept (fun _ => False) w wr
theorem WInv.next {w wr wr1 w2 : World} {bw : Nat} {u u' : Value} {l l' : List Nat} (h : WInv w wr bw u l) (k : Kept (fun _ => False) wr wr1)
    (hw : Wtr w2 bw u' l') (hm : Moved wr1 u u') (hk : Kept (fun k => k = bw ∨ u.ownBlock = some k) wr1 w2) : WInv w w2 bw u' l' := by
  refine ⟨hw, ?_, h.bb, put_kept (h.kp.trans k fun _ _ f => f) hk h.bb (fun g e => h.ub g e)⟩
  intro g e
  rcases hm with h' | ⟨g', h', hg⟩
  · exact h.ub g (h'.symm.trans e)
  · rw [h'] at e
    injection e with e
    have := h.kp.size
    have := k.size
    omega

/-- A writer and a reader of the call's own: all that was put is L; at_ of it is taken. -/
structure BInv (w wr : World) (bw : Nat) (u : Value) (b : Nat) (A : Option Addr) (c : Nat) (L : List Nat) (at_ : Nat) : Prop where
  wt : Wtr wr bw u L
  rd : Rdr wr b A c L at_ 0
  bb : w.heap.size ≤ b
  kp : Kept (fun _ => False) w wr
theorem wtr_ne {w : World} {bw b : Nat} {u : Value} {l L : List Nat} {A : Option Addr} {c at_ err : Nat} (h : Wtr w bw u l) (r : Rdr w b A c L at_ err) : bw ≠ b ∧ u.ownBlock ≠ some b := by
  constructor
  · rintro rfl
    have h1 := h.1
    rw [r.1] at h1
    injection h1 with h1
    injection h1 with _ ht
    exact absurd ht (by decide)
  · rcases h.2.2 with ⟨rfl, _⟩ | ⟨g, cap, cur, rfl, _, hh, _⟩
    · simp [Value.ownBlock]
    · intro e
      have : g = b := by simpa [Value.ownBlock] using e
      subst this
      rw [r.1] at hh
      injection hh with hh
      injection hh with _ ht
      exact absurd ht (by decide)
theorem BInv.kept {w wr wr1 : World} {bw : Nat} {u : Value} {b : Nat} {A : Option Addr} {c : Nat} {L : List Nat} {at_ : Nat} (h : BInv w wr bw u b A c L at_) (k : Kept (fun _ => False) wr wr1) : BInv w wr1 bw u b A c L at_ :=
  ⟨h.wt.kept k id (fun _ _ f => f), h.rd.kept k id (fun _ _ f => f), h.bb, h.kp.trans k fun _ _ f => f⟩
theorem BInv.took {w wr wr1 : World} {bw : Nat} {u : Value} {b : Nat} {A : Option Addr} {c : Nat} {L : List Nat} {at_ at' : Nat} (h : BInv w wr bw u b A c L at_) (r : Rdr wr1 b A c L at' 0) (k : Kept (fun i => i = b) wr wr1) : BInv w wr1 bw u b A c L at' :=
  ⟨h.wt.kept k (wtr_ne h.wt h.rd).1 (fun g e e2 => (wtr_ne h.wt h.rd).2 (by rw [e, e2])), r, h.bb, h.kp.trans k fun i hi e => absurd hi (by have := h.bb; omega)⟩

theorem Kept.undrew {S : Nat → Prop} {a b : World} (h : Kept S a.drew b) : Kept S a b := ⟨h.os, h.tape, h.output, h.size, h.block⟩

theorem putAll_drop (l : List It) (j : Nat) : (putAll l).drop (putAll (l.take j)).length = putAll (l.drop j) := by
  have e : putAll l = putAll (l.take j) ++ putAll (l.drop j) := by
    unfold putAll
    rw [← List.flatMap_append, List.take_append_drop]
  rw [e, List.drop_left]
theorem putAll_at {l : List It} {j : Nat} {t : It} (h : l[j]? = some t) : putAll (l.drop j) = putOf t ++ putAll (l.drop (j + 1)) := by
  have hj : j < l.length := (List.getElem?_eq_some_iff.1 h).1
  rw [List.getElem?_eq_getElem hj] at h
  injection h with h
  rw [List.drop_eq_getElem_cons hj, h]
  simp [putAll]
theorem putAll_len {l : List It} {j : Nat} {t : It} (h : l[j]? = some t) : (putAll (l.take j)).length + (putOf t).length ≤ (putAll l).length := by
  have e : putAll l = putAll (l.take j) ++ putAll (l.drop j) := by
    unfold putAll
    rw [← List.flatMap_append, List.take_append_drop]
  rw [e, putAll_at h]
  simp only [List.length_append]
  omega
theorem putAll_byte {l : List It} (h : ∀ t ∈ l, ∀ b ∈ t.l, b < 256) : ∀ b ∈ putAll l, b < 256 := by
  intro b hb
  simp only [putAll, List.mem_flatMap] at hb
  obtain ⟨t, ht, hb⟩ := hb
  unfold putOf at hb
  split at hb
  · exact h t ht b hb
  · exact vnum_byte _ b hb
theorem RdT.byte {w : World} {A : Option Addr} {l : List It} (h : RdT w A l) : ∀ t ∈ l, ∀ b ∈ t.l, b < 256 := by
  intro t ht
  obtain ⟨j, hj, e⟩ := List.getElem_of_mem ht
  obtain ⟨ad, _, _, hall⟩ := h (by omega)
  exact (hall j t (by rw [List.getElem?_eq_getElem hj, e])).2.2.2.2.2.1

set_option maxRecDepth 100000 in
set_option maxHeartbeats 6400000 in
theorem back_any (A : Option Addr) (c : Nat) (l : List It) (w : World) (hr : RdT w A l) (ht : Tab w) :
    Calls Tryd.prog 4 #[.slice A l.length c] w (Yes w) := by
  have HBY := Lib.hid (putAll_byte hr.byte)
  go_enter Tryd.func4, Tryd.ntmps4
  go_wp2_with fail
  refine (awake_any w ht).mono ?_
  rintro e w1 ⟨rfl, k1⟩
  have K1 := Lib.hid k1
  have R1 := Lib.hid (hr.kept k1 fun _ _ f => f)
  clear k1 hr ht
  by_cases hlong : 40 < l.length
  · go_wp2
    go_ret
    exact ⟨rfl, K1.out⟩
  · have hll : l.length ≤ 40 := by omega
    clear hlong
    have hd40 : decide ((40 : Int) < (l.length : Int)) = false := by simp; omega
    go_wp2
    go_loopw [16] (fun i wr => ∃ (j : Nat) (u : Value), j ≤ l.length ∧ i = .int .i64 (j : Int) ∧ WInv w1 wr w1.heap.size u (putAll (l.take j)) ∧ (putAll (l.take j)).length ≤ 40 * j) (fun i _ => l.length - (intOf i).toNat)
    case atStart => exact ⟨0, .slice none 0 0, Nat.zero_le _, rfl, ⟨put_new w1, by simp [Value.ownBlock], Nat.le_refl _, (Kept.refl _ _).alloc _⟩, by simp [putAll]⟩
    case round =>
      obtain ⟨j, u, hj, rfl, hinv, hlen⟩ := hrel
      by_cases hlt : j < l.length
      · obtain ⟨ad, rfl, hab, hall⟩ := R1.out (by omega)
        have hit : l[j]? = some l[j] := List.getElem?_eq_getElem hlt
        have hitem := hall j _ hit
        have hpm := putAll_more hit
        generalize l[j] = t at *
        obtain ⟨n, B, d, x, is⟩ := t
        obtain ⟨c0, c1, c2, hrd, hBd, hby, hfn⟩ := hitem
        simp only at c0 c1 c2 hrd hBd hby hfn
        have RD := Lib.hid hrd
        have HB := Lib.hid hBd
        have PM := Lib.hid hpm
        have HI := Lib.hid hinv
        have c0' : wr.cell? (ad.add (j * 3)) = some (.int .u64 (n : Int)) := (hinv.kp.cell (by rw [add_block]; exact hab) id).trans c0
        have c1' : wr.cell? ⟨(ad.add (j * 3)).block, (ad.add (j * 3)).off + 1, none⟩ = some (.slice B x.length d) := (hinv.kp.cell (p := (ad.add (j * 3)).add 1) (by rw [add_block, add_block]; exact hab) id).trans c1
        have c2' : wr.cell? ⟨(ad.add (j * 3)).block, (ad.add (j * 3)).off + 2, none⟩ = some (.bool is) := (hinv.kp.cell (p := (ad.add (j * 3)).add 2) (by rw [add_block, add_block]; exact hab) id).trans c2
        clear hrd hBd hby hall hpm hit hinv c0 c1 c2
        generalize putAll (l.take j) = k at *
        by_cases hx : 40 < x.length
        · go_wp2
          go_ret
          exact ⟨rfl, K1.out.trans (HI.out.kp.alloc _) fun _ _ f => f⟩
        · cases is
          · have hvn := vnum_ten hfn
            have hput : Hid (putOf { n := n, A := B, c := d, l := x, is := false } = vnum n) := by simp [putOf, Hid]
            go_wp2_with fail
            refine (num_any w1.heap.size u k n _ (HI.out.wt.kept ((Kept.refl (fun _ => False) wr).alloc _) id (fun _ _ f => f)) hfn (by omega)).mono ?_
            rintro e w2 ⟨rfl, u', hw2, hm2, hk2⟩
            have R := Lib.hid (HI.out.next ((Kept.refl (fun _ => False) wr).alloc _) hw2 hm2 hk2)
            clear hw2 hm2 hk2
            go_wp2
            go_roundw
            case rel => exact ⟨j + 1, u', by omega, by go_num, by rw [PM.out, hput.out]; exact R.out, by rw [PM.out, hput.out, List.length_append]; omega⟩
            case measure => simp [intOf]; omega
          · have hput : Hid (putOf { n := n, A := B, c := d, l := x, is := true } = x) := by simp [putOf, Hid]
            go_wp2_with fail
            refine (raw_any w1.heap.size u k B d x _ (HI.out.wt.kept ((Kept.refl (fun _ => False) wr).alloc _) id (fun _ _ f => f)) (RD.out.kept (HI.out.kp.alloc _) (fun _ _ f => f)) HB.out (by omega)).mono ?_
            rintro e w2 ⟨rfl, u', hw2, hm2, hk2⟩
            have R := Lib.hid (HI.out.next ((Kept.refl (fun _ => False) wr).alloc _) hw2 hm2 hk2)
            clear hw2 hm2 hk2
            go_wp2
            go_roundw
            case rel => exact ⟨j + 1, u', by omega, by go_num, by rw [PM.out, hput.out]; exact R.out, by rw [PM.out, hput.out, List.length_append]; omega⟩
            case measure => simp [intOf]; omega
      · have hje : j = l.length := by omega
        subst hje
        rw [List.take_length] at hinv hlen
        have HI := Lib.hid hinv
        clear hinv
        have PD := Lib.hid (putAll_drop l)
        have PL := Lib.hid (fun (j : Nat) (t : It) => putAll_len (l := l) (j := j) (t := t))
        obtain ⟨L, hL⟩ : ∃ L, putAll l = L := ⟨_, rfl⟩
        rw [hL] at HI hlen HBY PD PL
        clear hL
        go_wp2_with fail
        refine (bytes_any _ _ _ _ HI.out.wt (by omega)).mono ?_
        rintro e w3 ⟨A3, c3, rfl, ho3, hg3, hc3, hk3⟩
        have R3 := Lib.hid (Rd.of_owns ho3)
        have H3 := Lib.hid hc3
        have W3 := Lib.hid (HI.out.wt.kept hk3 id (fun _ _ f => f))
        have K3 := Lib.hid (HI.out.kp.trans hk3 fun _ _ f => f)
        clear ho3 hg3 hc3 hk3
        go_wp2_with fail
        refine (read_any _ _ _ _ R3.out H3.out (by omega)).mono ?_
        rintro e w4 ⟨b, A4, c4, rfl, hb4, hr4, hg4, hk4⟩
        have z3 := K3.out.size
        have I4 : Hid (BInv w1 w4 w1.heap.size u b A4 c4 L 0) := ⟨W3.out.kept hk4 id (fun _ _ f => f), hr4, by omega, K3.out.trans hk4 fun _ _ f => f⟩
        clear hb4 hr4 hg4 hk4 R3 H3 W3 K3 HI
        go_wp2
        go_loopw [39] (fun i wr => ∃ (j : Nat), j ≤ l.length ∧ i = .int .i64 (j : Int) ∧ Hid (BInv w1 wr w1.heap.size u b A4 c4 L (putAll (l.take j)).length)) (fun i _ => l.length - (intOf i).toNat)
        case atStart => exact ⟨0, Nat.zero_le _, rfl, by simpa [putAll] using I4⟩
        case round =>
          obtain ⟨j, hj, rfl, HI⟩ := hrel
          by_cases hlt : j < l.length
          · obtain ⟨ad, rfl, hab, hall⟩ := R1.out (by omega)
            have hit : l[j]? = some l[j] := List.getElem?_eq_getElem hlt
            have hitem := hall j _ hit
            have hpm := putAll_more hit
            have hpl := PL.out j _ hit
            have hpd := (PD.out j).trans (putAll_at hit)
            generalize l[j] = t at *
            obtain ⟨n, B, d, x, is⟩ := t
            obtain ⟨c0, c1, c2, hrd, hBd, hby, hfn⟩ := hitem
            simp only at c0 c1 c2 hrd hBd hby hfn
            have RD := Lib.hid hrd
            have HB := Lib.hid hBd
            have hkp := HI.out.kp
            have c0' : wr.cell? (ad.add (j * 3)) = some (.int .u64 (n : Int)) := (hkp.cell (by rw [add_block]; exact hab) id).trans c0
            have c1' : wr.cell? ⟨(ad.add (j * 3)).block, (ad.add (j * 3)).off + 1, none⟩ = some (.slice B x.length d) := (hkp.cell (p := (ad.add (j * 3)).add 1) (by rw [add_block, add_block]; exact hab) id).trans c1
            have c2' : wr.cell? ⟨(ad.add (j * 3)).block, (ad.add (j * 3)).off + 2, none⟩ = some (.bool is) := (hkp.cell (p := (ad.add (j * 3)).add 2) (by rw [add_block, add_block]; exact hab) id).trans c2
            have PM : Hid ((putAll (l.take (j + 1))).length = (putAll (l.take j)).length + (putOf { n := n, A := B, c := d, l := x, is := is }).length) := by rw [Hid, hpm, List.length_append]
            have hbl : b < wr.heap.size := lt_of_at HI.out.rd.1
            clear hrd hBd hby hall hpm hit c0 c1 c2 hkp
            generalize putAll (l.drop (j + 1)) = rest at *
            generalize (putAll (l.take j)).length = at_ at *
            have HD := Lib.hid hpd
            clear hpd
            cases is
            · have hput : putOf { n := n, A := B, c := d, l := x, is := false } = vnum n := by simp [putOf]
              rw [hput] at PM HD hpl
              clear hput
              have hnum : ∀ W, Rdr W b A4 c4 L at_ 0 → Calls Tryd.prog 18 #[.pointer (some ⟨b, 0, none⟩)] W (Took W b A4 c4 L (at_ + (vnum n).length) 0 (.int .u64 (n : Int))) := by
                intro W hW
                have := rdnum_any b A4 c4 L at_ W hW (by omega) HBY.out
                rw [HD.out, vread_vnum n hfn] at this
                exact this
              have HN := Lib.hid hnum
              clear hnum
              have J := Lib.hid (HI.out.kept ((Kept.refl (fun _ => False) wr).alloc (.cells #[.int .u64 (n : Int), .slice B x.length d, .bool false] 29)))
              go_wp2
              go_region_with (go_at_call 18; refine (HN.out _ (by exact J.out.rd)).mono ?_; rintro e w5 ⟨rfl, hr5, hk5⟩; have x0 : w5.cell? ⟨wr.heap.size, 0, none⟩ = some (.int .u64 (n : Int)) := by (rw [hk5.cell (p := ⟨wr.heap.size, 0, none⟩) (by simp) (by simp; omega)]; simp))
              all_goals
                have R := Lib.hid (J.out.took hr5 hk5.undrew)
                clear hr5 hk5
                go_wp2
                go_roundw
                case rel => exact ⟨j + 1, by omega, by go_num, by rw [PM.out]; exact R⟩
                case measure => simp [intOf]; omega
            · have hput : putOf { n := n, A := B, c := d, l := x, is := true } = x := by simp [putOf]
              rw [hput] at PM HD hpl
              clear hput
              have hLd : x.length ≤ L.length - at_ := by omega
              have htk : Hid ((L.drop at_).take x.length = x) := by rw [Hid, HD.out, List.take_left]
              have J := Lib.hid (HI.out.kept ((Kept.refl (fun _ => False) wr).alloc (.cells #[.int .u64 (n : Int), .slice B x.length d, .bool true] 29)))
              have RDJ := Lib.hid (RD.out.kept J.out.kp (fun _ _ f => f))
              go_wp2
              go_region_with (first | (go_at_call 17; refine (rdraw_ok b A4 c4 L at_ x.length _ (by exact J.out.rd) (by omega) hLd).mono ?_; rintro e w5 ⟨A5, c5, rfl, hr5, ho5, hg5, hn5, hk5⟩; have x0 : w5.cell? ⟨wr.heap.size, 1, none⟩ = some (.slice B x.length d) := (by (rw [hk5.cell (p := ⟨wr.heap.size, 1, none⟩) (by simp) (by simp; omega)]; simp)); have R := Lib.hid (J.out.took hr5 hk5.undrew); have Q5 : Hid (Rd w5 A5 x ∧ Rd w5 B x) := ⟨Rd.of_owns (l := x) (by rw [htk.out] at ho5; exact ho5), RD.out.kept R.out.kp (fun _ _ f => f)⟩; clear hr5 ho5 hg5 hn5 hk5) | (go_at_call 14; refine (equal_any _ _ _ _ x x _ (by exact Q5.out.1) (by exact Q5.out.2) (by omega) (by omega)).mono ?_; rw [sameB_of rfl]; rintro e w6 ⟨rfl, q, rfl⟩))
              all_goals
                go_wp2
                go_roundw
                case rel => exact ⟨j + 1, by omega, by go_num, by rw [PM.out]; exact R.out.kept ((Kept.refl _ _).drewN _)⟩
                case measure => simp [intOf]; omega
          · have hje : j = l.length := by omega
            subst hje
            have HL : Hid ((putAll (l.take l.length)).length = L.length) := by
              have h0 := PD.out l.length
              rw [List.drop_length] at h0
              have h1 := congrArg List.length h0
              have h2 := HI.out.rd.2.2
              rw [List.length_drop] at h1
              simp only [putAll, List.flatMap_nil, List.length_nil] at h1 h2 ⊢
              rw [Hid]
              omega
            rw [HL.out] at HI
            go_wp2_with fail
            refine (left_any _ _ _ _ _ _ _ HI.out.rd (by omega)).mono ?_
            rintro e w5 ⟨rfl, q, rfl⟩
            rw [Nat.sub_self]
            have I5 := Lib.hid (HI.out.kept ((Kept.refl (fun _ => False) wr).drewN q))
            go_wp2_with fail
            refine (err_any _ _ _ _ _ _ _ (by exact I5.out.rd)).mono ?_
            rintro e w6 ⟨rfl, rfl⟩
            go_wp2_with fail
            refine (at_any _ _ _ _ _ _ _ (by exact I5.out.rd)).mono ?_
            rintro e w7 ⟨rfl, rfl⟩
            go_wp2_with fail
            refine (bytes_any _ _ _ _ (by exact I5.out.wt) (by omega)).mono ?_
            rintro e w8 ⟨A8, c8, rfl, ho8, hg8, hc8, hk8⟩
            have K8 := Lib.hid ((K1.out.trans I5.out.kp fun _ _ f => f).trans hk8 fun _ _ f => f)
            clear ho8 hg8 hc8 hk8
            go_wp2
            go_ret
            exact ⟨rfl, K8.out⟩
end Go.Proofs.YtpjmefbbfgpaiaaDoor
