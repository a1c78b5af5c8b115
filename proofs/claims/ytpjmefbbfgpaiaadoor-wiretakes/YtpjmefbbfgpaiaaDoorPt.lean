/- The law WirePuts, walked: true at any items. -/
import Derived.Test.YtpjmefbbfgpaiaaDoorRn
import Derived.Test.YtpjmefbbfgpaiaaDoorOp
namespace Go.Proofs.YtpjmefbbfgpaiaaDoor
open Go.RowKit

/-- What an item puts. -/
def putOf (t : It) : List Nat := if t.is then t.l else vnum t.n
def putAll (l : List It) : List Nat := l.flatMap putOf
theorem putAll_more {l : List It} {j : Nat} {t : It} (h : l[j]? = some t) : putAll (l.take (j + 1)) = putAll (l.take j) ++ putOf t := by
  have hj : j < l.length := (List.getElem?_eq_some_iff.1 h).1
  rw [List.take_succ_eq_append_getElem hj]
  rw [List.getElem?_eq_getElem hj] at h
  injection h with h
  simp [putAll, h]

theorem RdT.kept {S : Nat → Prop} {w w' : World} {A : Option Addr} {l : List It} (h : RdT w A l) (k : Kept S w w') (hn : ∀ g, g < w.heap.size → ¬ S g) : RdT w' A l := fun hl => by
  obtain ⟨ad, rfl, hb, hc⟩ := h hl
  refine ⟨ad, rfl, Nat.lt_of_lt_of_le hb k.size, fun j t ht => ?_⟩
  obtain ⟨h1, h2, h3, h4, h5, h6, h7⟩ := hc j t ht
  have hne := hn _ hb
  refine ⟨?_, ?_, ?_, fun hl' => ?_, h5, h6, h7⟩
  · rw [k.cell (by rw [add_block]; exact hb) (by rw [add_block]; exact hne)]; exact h1
  · rw [k.cell (by rw [add_block, add_block]; exact hb) (by rw [add_block, add_block]; exact hne)]; exact h2
  · rw [k.cell (by rw [add_block, add_block]; exact hb) (by rw [add_block, add_block]; exact hne)]; exact h3
  · obtain ⟨ad', e', hb', hc'⟩ := h4 hl'
    exact ⟨ad', e', Nat.lt_of_lt_of_le hb' k.size, fun i hi => (k.cell (by rw [add_block]; exact hb') (by rw [add_block]; exact hn _ hb')).trans (hc' i hi)⟩

/-- What holds between two rounds: the writer and the list beside it hold the same bytes, each in memory of its own. -/
structure PInv (w wr : World) (bw : Nat) (u v : Value) (l : List Nat) : Prop where
  wt : Wtr wr bw u l
  own : wr.ownsRow 0 5 1 v l.length (bv l)
  ub : ∀ g, u.ownBlock = some g → w.heap.size ≤ g
  vb : ∀ g, v.ownBlock = some g → w.heap.size ≤ g ∧ u.ownBlock ≠ some g
  bb : w.heap.size ≤ bw
  kp : Kept (fun _ => False) w wr

theorem own5_ne {w : World} {b : Nat} {u v : Value} {l k : List Nat} (h : Wtr w b u l) (ho : w.ownsRow 0 5 1 v k.length (bv k)) : v.ownBlock ≠ some b := (show Wtr w b u l from h) |> fun h => by
  rcases ho.2 with ⟨rfl, _⟩ | ⟨g, cap, cur, rfl, _, hh, _⟩
  · simp [Value.ownBlock]
  · intro e
    have : g = b := by simpa [Value.ownBlock] using e
    subst this
    rw [h.1] at hh
    injection hh with hh
    injection hh with _ ht
    exact absurd ht (by decide)

/-- The writer has put x, the list not yet. -/
theorem PInv.put {w wr wr1 w2 : World} {bw : Nat} {u v u' : Value} {l x : List Nat} (h : PInv w wr bw u v l) (k : Kept (fun _ => False) wr wr1)
    (hw : Wtr w2 bw u' (l ++ x)) (hm : Moved wr1 u u') (hk : Kept (fun k => k = bw ∨ u.ownBlock = some k) wr1 w2) :
    w2.ownsRow 0 5 1 v l.length (bv l) ∧ (∀ g, u'.ownBlock = some g → w.heap.size ≤ g) ∧ (∀ g, v.ownBlock = some g → w.heap.size ≤ g ∧ u'.ownBlock ≠ some g) ∧ Kept (fun _ => False) w w2 := by
  have ho1 := owns_kept h.own k (fun _ _ f => f)
  refine ⟨owns_kept ho1 hk fun g e => ?_, ?_, fun g e => ⟨(h.vb g e).1, ?_⟩, ?_⟩
  · rintro (rfl | e2)
    · exact own5_ne h.wt h.own e
    · exact (h.vb g e).2 e2
  · intro g e
    rcases hm with h' | ⟨g', h', hg⟩
    · exact h.ub g (h'.symm.trans e)
    · rw [h'] at e
      injection e with e
      have := h.kp.size
      have := k.size
      omega
  · rcases hm with h' | ⟨g', h', hg⟩
    · rw [h']; exact (h.vb g e).2
    · rw [h']
      intro e2
      injection e2 with e2
      have := (h.own.lt g e).2
      have := k.size
      omega
  · exact put_kept (h.kp.trans k fun _ _ f => f) hk h.bb (fun g e => h.ub g e)

/-- The list has x, too. -/
theorem PInv.next {w w2 w2' w3 : World} {bw : Nat} {u' v v' : Value} {l x : List Nat} {m : Nat} (hb : w.heap.size ≤ bw) (hw : Wtr w2 bw u' (l ++ x)) (ho : w2.ownsRow 0 5 1 v l.length (bv l)) (hu : ∀ g, u'.ownBlock = some g → w.heap.size ≤ g)
    (hv : ∀ g, v.ownBlock = some g → w.heap.size ≤ g ∧ u'.ownBlock ≠ some g) (hk : Kept (fun _ => False) w w2) (k : Kept (fun _ => False) w2 w2')
    (hown : w3.ownsRow 0 5 1 v' m (bv l ++ bv x)) (hmm : m = l.length + x.length) (hg : w2'.grownBy w3 v.ownBlock) (hat : v'.ownBlock = v.ownBlock ∨ v'.ownBlock = some w2'.heap.size) : PInv w w3 bw u' v' (l ++ x) := by
  have k3 : Kept (fun k => v.ownBlock = some k) w2 w3 := (k.mono (T := fun k => v.ownBlock = some k) fun _ _ f => f.elim).grown hg fun g e _ => e
  refine ⟨hw.kept k3 (own5_ne hw ho) (fun g e e2 => (hv g e2).2 e), by rw [bv_append, List.length_append, ← hmm]; exact hown, hu, fun g e => ?_, hb, hk.trans k3 fun i hi e => absurd (hv i e).1 (by omega)⟩
  rcases hat with h | h
  · exact hv g (h.symm.trans e)
  · rw [h] at e
    injection e with e
    have a1 := hk.size
    have a2 := k.size
    refine ⟨by omega, fun e2 => ?_⟩
    have := (hw.2.lt g e2).2
    omega

set_option maxRecDepth 100000 in
set_option maxHeartbeats 3200000 in
theorem puts_any (A : Option Addr) (c : Nat) (l : List It) (w : World) (hr : RdT w A l) (ht : Tab w) :
    Calls Tryd.prog 3 #[.slice A l.length c] w (Yes w) := by
  obtain ⟨i0, hi, hz0, hz1, hz2⟩ := info_parts info5
  go_enter Tryd.func3, Tryd.ntmps3
  go_wp2_with fail
  refine (awake_any w ht).mono ?_
  rintro e w1 ⟨rfl, k1⟩
  have K1 := Lib.hid k1
  have R1 := Lib.hid (hr.kept k1 fun _ _ f => f)
  clear k1 hr ht
  by_cases hlong : 40 < l.length
  · go_wp2
    go_ret
    exact ⟨rfl, K1.out⟩
  · have hll : l.length ≤ 40 := by omega
    clear hlong
    have hd40 : decide ((40 : Int) < (l.length : Int)) = false := by simp; omega
    go_wp2
    go_loopw [4, 14] (fun v i wr => ∃ (j : Nat) (u : Value), j ≤ l.length ∧ i = .int .i64 (j : Int) ∧ PInv w1 wr w1.heap.size u v (putAll (l.take j)) ∧ (putAll (l.take j)).length ≤ 40 * j) (fun _ i _ => l.length - (intOf i).toNat)
    case atStart => exact ⟨0, .slice none 0 0, Nat.zero_le _, rfl, ⟨put_new w1, World.ownsRow_nil _ _ _ _, by simp [Value.ownBlock], by simp [Value.ownBlock], Nat.le_refl _, (Kept.refl _ _).alloc _⟩, by simp [putAll]⟩
    case round =>
      obtain ⟨j, u, hj, rfl, hinv, hlen⟩ := hrel
      by_cases hlt : j < l.length
      · obtain ⟨ad, rfl, hab, hall⟩ := R1.out (by omega)
        have hit : l[j]? = some l[j] := List.getElem?_eq_getElem hlt
        have hitem := hall j _ hit
        have hpm := putAll_more hit
        generalize l[j] = t at *
        obtain ⟨n, B, d, x, is⟩ := t
        obtain ⟨c0, c1, c2, hrd, hBd, hby, hfn⟩ := hitem
        simp only at c0 c1 c2 hrd hBd hby hfn
        have RD := Lib.hid hrd
        have HB := Lib.hid hBd
        have PM := Lib.hid hpm
        have HI := Lib.hid hinv
        obtain ⟨V, vc, rfl⟩ := owns_shape hinv.own
        have c0' : wr.cell? (ad.add (j * 3)) = some (.int .u64 (n : Int)) := (hinv.kp.cell (by rw [add_block]; exact hab) id).trans c0
        have c1' : wr.cell? ⟨(ad.add (j * 3)).block, (ad.add (j * 3)).off + 1, none⟩ = some (.slice B x.length d) := (hinv.kp.cell (p := (ad.add (j * 3)).add 1) (by rw [add_block, add_block]; exact hab) id).trans c1
        have c2' : wr.cell? ⟨(ad.add (j * 3)).block, (ad.add (j * 3)).off + 2, none⟩ = some (.bool is) := (hinv.kp.cell (p := (ad.add (j * 3)).add 2) (by rw [add_block, add_block]; exact hab) id).trans c2
        have hbw : w1.heap.size < wr.heap.size := hinv.wt.lt
        have hul : ∀ g, u.ownBlock = some g → g < wr.heap.size := fun g e => (hinv.wt.2.lt g e).2
        have UL := Lib.hid hul
        clear hrd hBd hby hall hpm hit hinv c0 c1 c2 hul
        generalize putAll (l.take j) = k at *
        by_cases hx : 40 < x.length
        · go_wp2
          go_ret
          exact ⟨rfl, K1.out.trans (HI.out.kp.alloc _) fun _ _ f => f⟩
        · cases is
          · have hvn := vnum_ten hfn
            go_wp2_with fail
            refine (num_any w1.heap.size u k n _ (HI.out.wt.kept ((Kept.refl (fun _ => False) wr).alloc _) id (fun _ _ f => f)) hfn (by omega)).mono ?_
            rintro e w2 ⟨rfl, u', hw2, hm2, hk2⟩
            obtain ⟨P1, P2, P3, P4⟩ := HI.out.put ((Kept.refl (fun _ => False) wr).alloc _) hw2 hm2 hk2
            have x0 : w2.cell? ⟨wr.heap.size, 0, none⟩ = some (.int .u64 (n : Int)) := by
              rw [hk2.cell (p := ⟨wr.heap.size, 0, none⟩) (by simp) (by
                rintro (h | h)
                · simp at h; omega
                · exact absurd (UL.out _ h) (by simp))]
              simp
            have Q := Lib.hid (And.intro hw2 (And.intro P1 (And.intro P2 (And.intro P3 P4))))
            clear hw2 hm2 hk2 P1 P2 P3 P4
            go_wp2_with fail
            refine (rnum_any n _ hfn).mono ?_
            rintro e w3 ⟨A3, c3, rfl, ho3, hg3, hc3, hk3⟩
            obtain ⟨g3, cap3, e3, _, _⟩ := ho3.form (vnum_pos n)
            injection e3 with eA _ ec
            subst eA ec
            have hcells := ho3.cells (g := g3) rfl
            have hown := owns_kept Q.out.2.1 hk3 (fun _ _ f => f)
            have C3 := Lib.hid hcells
            have O3 := Lib.hid hown
            have K3 := Lib.hid hk3
            have hb1 := Lib.hid (bv_one (vnum n))
            have hb2 : Hid ((bv (vnum n)).length = (vnum n).length * 1) := by simp [bv, Hid]
            have hput : Hid (putOf { n := n, A := B, c := d, l := x, is := false } = vnum n) := by simp [putOf, Hid]
            generalize vnum n = y at *
            clear ho3 hg3 hc3 hk3 hcells hown
            go_wp2_with (at_builtin; refine wpList_append_own_at _ rfl (.tmp 34) (.tmp 37) 24 rfl 0 5 i0 (.int .u8 0) 1 1 Tryd.underlying24 hi hz0 hz1 hz2 rfl (by decide) _ k.length (bv k) rfl O3.out ⟨g3, 0, none⟩ y.length c3 (bv y) rfl hb2.out C3.out hb1.out (by simp only [maxLen]; omega) (by omega) (Nat.zero_le _) ?a4)
            intro v' w4 hown hg _ hat
            have R : Hid (PInv w1 w4 w1.heap.size u' v' (k ++ y)) := PInv.next (Nat.le_refl _) Q.out.1 Q.out.2.1 Q.out.2.2.1 Q.out.2.2.2.1 Q.out.2.2.2.2 K3.out hown rfl hg hat
            clear hown hg hat
            go_wp2
            go_roundw
            case rel => exact ⟨j + 1, u', by omega, by go_num, by rw [PM.out, hput.out]; exact R.out, by rw [PM.out, hput.out, List.length_append]; omega⟩
            case measure => simp [intOf]; omega
          · have hput : Hid (putOf { n := n, A := B, c := d, l := x, is := true } = x) := by simp [putOf, Hid]
            go_wp2_with fail
            refine (raw_any w1.heap.size u k B d x _ (HI.out.wt.kept ((Kept.refl (fun _ => False) wr).alloc _) id (fun _ _ f => f)) (RD.out.kept (HI.out.kp.alloc _) (fun _ _ f => f)) HB.out (by omega)).mono ?_
            rintro e w2 ⟨rfl, u', hw2, hm2, hk2⟩
            obtain ⟨P1, P2, P3, P4⟩ := HI.out.put ((Kept.refl (fun _ => False) wr).alloc _) hw2 hm2 hk2
            have x0 : w2.cell? ⟨wr.heap.size, 1, none⟩ = some (.slice B x.length d) := by
              rw [hk2.cell (p := ⟨wr.heap.size, 1, none⟩) (by simp) (by
                rintro (h | h)
                · simp at h; omega
                · exact absurd (UL.out _ h) (by simp))]
              simp
            have R2 := Lib.hid (RD.out.kept P4 (fun _ _ f => f))
            have Q := Lib.hid (And.intro hw2 (And.intro P1 (And.intro P2 (And.intro P3 P4))))
            have O2 := Lib.hid P1
            clear hw2 hm2 hk2 P1 P2 P3 P4
            rcases B with _ | bd
            · have hl0 : x = [] := by
                rcases x with _ | ⟨y, x⟩
                · rfl
                · obtain ⟨_, e, _⟩ := R2.out (by simp); cases e
              obtain rfl := HB.out rfl
              have R : Hid (PInv w1 w2 w1.heap.size u' (.slice V k.length vc) (k ++ x)) := by
                subst hl0
                exact PInv.next (Nat.le_refl _) Q.out.1 Q.out.2.1 Q.out.2.2.1 Q.out.2.2.2.1 Q.out.2.2.2.2 (Kept.refl _ _) (by simpa [bv] using O2.out) (by simp) (World.grownBy.refl w2 _) (.inl rfl)
              have hx0 : x.length = 0 := by rw [hl0]; rfl
              go_wp2_with (at_builtin; refine wpList_append_own_none rfl (.tmp 27) (.tmp 29) 24 rfl 0 5 i0 1 Tryd.underlying24 hi _ k.length (bv k) rfl O2.out rfl ?_)
              go_roundw
              case rel => exact ⟨j + 1, u', by omega, by go_num, by rw [PM.out, hput.out]; exact R.out, by rw [PM.out, hput.out, List.length_append]; omega⟩
              case measure => simp [intOf]; omega
            · have hcells : ∀ (i : Nat) (u : Value), (bv x)[i]? = some u → w2.cell? (bd.add i) = some u := by
                intro i u hu
                have hi : i < x.length := by
                  have := (List.getElem?_eq_some_iff.1 hu).1
                  rwa [bv_length] at this
                obtain ⟨ad', e, hb, hc⟩ := R2.out.at_ hi
                injection e with e
                subst e
                rw [bv_get x i hi] at hu
                rw [hc]
                exact hu
              have C2 := Lib.hid hcells
              clear hcells
              go_wp2_with (at_builtin; refine wpList_append_own_at _ rfl (.tmp 27) (.tmp 29) 24 rfl 0 5 i0 (.int .u8 0) 1 1 Tryd.underlying24 hi hz0 hz1 hz2 rfl (by decide) _ k.length (bv k) rfl O2.out bd x.length d (bv x) rfl (by simp [bv]) C2.out (bv_one _) (by simp only [maxLen]; omega) (by omega) (Nat.zero_le _) ?a5)
              intro v' w4 hown hg _ hat
              have R : Hid (PInv w1 w4 w1.heap.size u' v' (k ++ x)) := PInv.next (Nat.le_refl _) Q.out.1 Q.out.2.1 Q.out.2.2.1 Q.out.2.2.2.1 Q.out.2.2.2.2 (Kept.refl _ _) hown rfl hg hat
              clear hown hg hat
              go_wp2
              go_roundw
              case rel => exact ⟨j + 1, u', by omega, by go_num, by rw [PM.out, hput.out]; exact R.out, by rw [PM.out, hput.out, List.length_append]; omega⟩
              case measure => simp [intOf]; omega
      · have hje : j = l.length := by omega
        subst hje
        rw [List.take_length] at hinv hlen
        obtain ⟨V, vc, rfl⟩ := owns_shape hinv.own
        have HI := Lib.hid hinv
        clear hinv
        generalize putAll l = k at *
        go_wp2_with fail
        refine (bytes_any _ _ _ _ HI.out.wt (by omega)).mono ?_
        rintro e w3 ⟨A3, c3, rfl, ho3, hg3, hc3, hk3⟩
        have R3 := Lib.hid (Rd.of_owns ho3)
        have O3 := Lib.hid (Rd.of_owns (owns_kept HI.out.own hk3 (fun _ _ f => f)))
        have K3 := Lib.hid ((K1.out.trans HI.out.kp fun _ _ f => f).trans hk3 fun _ _ f => f)
        clear ho3 hg3 hc3 hk3
        go_wp2_with fail
        refine (equal_any _ _ _ _ _ _ _ R3.out O3.out (by omega) (by omega)).mono ?_
        rw [sameB_of rfl]
        rintro e w8 ⟨rfl, q, hq⟩
        have K8 : Hid (Kept (fun _ => False) w w8) := by rw [hq]; exact Kept.drewN K3.out _
        clear hq
        go_wp2
        go_ret
        exact ⟨rfl, K8.out⟩
end Go.Proofs.YtpjmefbbfgpaiaaDoor
