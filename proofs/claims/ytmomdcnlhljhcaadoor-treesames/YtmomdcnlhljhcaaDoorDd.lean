/- tree.Expr.Depth: an expression's depth, level by level. -/
import Derived.Test.YtmomdcnlhljhcaaDoorDa
set_option linter.unusedSimpArgs false
set_option linter.unusedVariables false
namespace Go.Proofs.YtmomdcnlhljhcaaDoor
open Go.RowKit Ieee

def dep : Ex → Nat
  | .num _ _ => 1
  | .reg _ => 1
  | .one _ a => dep a + 1
  | .two _ a b => max (dep a) (dep b) + 1
def nd : Ex → Nat
  | .num _ _ => 1
  | .reg _ => 1
  | .one _ a => nd a + 1
  | .two _ a b => nd a + nd b + 1
theorem dep_pos (e : Ex) : 1 ≤ dep e := by cases e <;> simp [dep]
theorem nd_pos (e : Ex) : 1 ≤ nd e := by cases e <;> simp [nd]
/-- An expression, and where it lies. -/
structure It where
  g : Nat
  o : Nat
  e : Ex
def It.ptr (i : It) : Value := .pointer (some ⟨i.g, i.o, none⟩)
def deps : List It → Nat
  | [] => 0
  | i :: l => max (dep i.e) (deps l)
def nds : List It → Nat
  | [] => 0
  | i :: l => nd i.e + nds l
theorem deps_app (a b : List It) : deps (a ++ b) = max (deps a) (deps b) := by
  induction a with
  | nil => simp [deps]
  | cons i l ih => simp only [List.cons_append, deps, ih]; omega
theorem nds_app (a b : List It) : nds (a ++ b) = nds a + nds b := by
  induction a with
  | nil => simp [nds]
  | cons i l ih => simp [nds, ih]; omega
theorem nds_len (l : List It) : l.length ≤ nds l := by
  induction l with
  | nil => exact Nat.le_refl _
  | cons i l ih => have := nd_pos i.e; simp [nds]; omega
def OkI (w : World) (N : Nat) (i : It) : Prop := i.g < N + 1 ∧ ∃ p, Cx w i.g i.o i.e p ∧ Px w (fun g => g < N) i.e p

theorem aparts_it {N n : Nat} {W1 w : World} {i : It} (h : OkI W1 N i) (hb : Below (N + 1) W1 w) (v : Value) (xs : List Value) (hown : w.ownsRow (N + 1) 70 1 v n xs) (hn : n ≤ 1000000) (hB : N + 1 ≤ w.heap.size) :
    ∃ ks : List It, (∀ k ∈ ks, OkI W1 N k) ∧ dep i.e = deps ks + 1 ∧ nds ks + 1 = nd i.e ∧ Calls Tryd.prog 33 #[v, i.ptr] w (PartsR (N + 1) w v (n + ks.length) (xs ++ ks.map It.ptr)) := by
  obtain ⟨hg, p, hc, hp⟩ := h
  have hs : Same (fun g => g < N + 1) W1 w := Same.below hb (fun g h => h)
  obtain ⟨_, _, _, c3⟩ := hc.on hs hg
  obtain ⟨g, o, e⟩ := i
  cases e with
  | num re im =>
    obtain rfl : p = none := hp
    exact ⟨[], by simp, rfl, rfl, by simpa [It.ptr] using aparts_0 (N + 1) n v xs w hown g o c3⟩
  | reg r =>
    obtain rfl : p = none := hp
    exact ⟨[], by simp, rfl, rfl, by simpa [It.ptr] using aparts_0 (N + 1) n v xs w hown g o c3⟩
  | one k a =>
    obtain ⟨g', q, rfl, hg', hca, hpa⟩ := hp
    refine ⟨[⟨g', 0, a⟩], ?_, by simp [dep, deps], by simp [nd, nds], by simpa [prs, It.ptr] using aparts_1 (N + 1) n v xs w hown hn g o g' c3 hg hB⟩
    intro k hk
    simp only [List.mem_cons, List.not_mem_nil, or_false] at hk
    subst hk
    exact ⟨by show g' < N + 1; omega, q, hca, hpa⟩
  | two k a b =>
    obtain ⟨g', q, r, rfl, hg', hca, hcb, hpa, hpb⟩ := hp
    refine ⟨[⟨g', 0, a⟩, ⟨g', 4, b⟩], ?_, by simp [dep, deps], by simp [nd, nds], by simpa [prs, It.ptr] using aparts_2 (N + 1) n v xs w hown hn g o g' c3 hg hB⟩
    intro k hk
    simp only [List.mem_cons, List.not_mem_nil, or_false] at hk
    rcases hk with rfl | rfl
    · exact ⟨by show g' < N + 1; omega, q, hca, hpa⟩
    · exact ⟨by show g' < N + 1; omega, r, hcb, hpb⟩

structure Din (e0 : Ex) (N : Nat) (W1 wr : World) (d : Nat) (lv bl : Value) (L : List It) : Prop where
  bel : Below (N + 1) W1 wr
  own : wr.ownsRow (N + 1) 70 1 lv L.length (L.map It.ptr)
  spare : ∃ n xs, wr.ownsRow (N + 1) 70 1 bl n xs
  apart : ∀ k, lv.ownBlock = some k → bl.ownBlock ≠ some k
  ok : ∀ i ∈ L, OkI W1 N i
  dp : d + deps L = dep e0
  few : nds L ≤ 1000
  size : N + 1 ≤ wr.heap.size
theorem own_cut {w : World} {B t size : Nat} {v : Value} {n : Nat} {xs : List Value} (h : w.ownsRow B t size v n xs) : (v = .slice none 0 0 ∧ w.ownsRow B t size (.slice none 0 0) 0 []) ∨ ∃ g cap, v = .slice (some ⟨g, 0, none⟩) n cap ∧ w.ownsRow B t size (.slice (some ⟨g, 0, none⟩) 0 cap) 0 [] := by
  rcases h.2 with ⟨rfl, _⟩ | ⟨g, cap, cur, rfl, h1, h2, h3, h4, h5, h6⟩
  · exact .inl ⟨rfl, World.ownsRow_nil _ _ _ _⟩
  · exact .inr ⟨g, cap, rfl, by simp, .inr ⟨g, cap, cur, rfl, h1, h2, by omega, h4, h5, by simp⟩⟩
theorem din_start (e : Ex) (p : Option Addr) (w : World) (hp : Px w (fun g => g < w.heap.size) e p) (hnd : nd e ≤ 1000) :
    Din e w.heap.size (w.alloc (ebox e p)) ((w.alloc (ebox e p)).alloc (.cells #[.pointer (some ⟨w.heap.size, 0, none⟩)] 70)) 0 (.slice (some ⟨w.heap.size + 1, 0, none⟩) 1 1) (.slice none 0 0) [⟨w.heap.size, 0, e⟩] := by
  have hz : (w.alloc (ebox e p)).heap.size = w.heap.size + 1 := by simp
  refine ⟨(Below.refl _ _).alloc (by simp) _, ?_, ⟨0, [], World.ownsRow_nil _ _ _ _⟩, by simp [Value.ownBlock], ?_, by simp [deps], by simpa [nds] using hnd, by simp⟩
  · have h := World.ownsRow_lit (base := w.heap.size + 1) (size := 1) (e := 70) (w.alloc (ebox e p)) #[.pointer (some ⟨w.heap.size, 0, none⟩)] 1 (by simp) (by unfold maxLen; omega) rfl
    rw [hz] at h
    exact h
  · intro q hq
    simp only [List.mem_cons, List.not_mem_nil, or_false] at hq
    subst hq
    exact ⟨by show w.heap.size < w.heap.size + 1; omega, p, cx_box e p w, hp.on (Same.below (below_alloc w _) (fun g h => h)) (fun g h => h)⟩

set_option maxRecDepth 100000 in
set_option maxHeartbeats 3200000 in
theorem depth_any (e : Ex) (p : Option Addr) (w : World) (hp : Px w (fun g => g < w.heap.size) e p) (hnd : nd e ≤ 1000) (hdp : dep e ≤ 1000) :
    Calls Tryd.prog 20 #[exv e p] w fun en w' => en = .returned (.int .i64 (dep e : Int)) ∧ Below w.heap.size w w' := by
  have HD0 := Lib.hid (din_start e p w hp hnd)
  have hst := store_cx
  obtain ⟨N, hN⟩ : ∃ N, w.heap.size = N := ⟨_, rfl⟩
  rw [hN] at HD0 ⊢
  have HN := Lib.hid hN
  obtain ⟨W1, hW1⟩ : ∃ W1, w.alloc (ebox e p) = W1 := ⟨_, rfl⟩
  rw [hW1] at HD0
  have HW1 := Lib.hid hW1
  have HBW : Hid (Below N w W1) := Lib.hid (by rw [← hN, ← hW1]; exact below_alloc w _)
  clear hp hW1
  unfold exv
  go_enter Tryd.func20, Tryd.ntmps20
  go_wp2
  go_loopw [3, 4, 5] (fun d lv bl wr => ∃ (D : Nat) (L : List It), d = .int .i64 (D : Int) ∧ Din e N W1 wr D lv bl L) (fun d _ _ _ => (1000 - intOf d).toNat)
  case atStart => exact ⟨0, _, rfl, by rw [← HW1.out] at HD0 ⊢; exact HD0.out⟩
  case round =>
    obtain ⟨D, L, rfl, hD⟩ := hrel
    have HD := Lib.hid hD
    have hdl : D ≤ 1000 := by have := hD.dp; omega
    have hfew := hD.few
    have hlen := nds_len L
    clear hD hN
    cases L with
    | nil =>
      have hv : ∃ a c, u4 = .slice a 0 c := by
        rcases HD.out.own.2 with ⟨h, _⟩ | ⟨g, cap, _, h, _⟩
        · exact ⟨_, _, h⟩
        · exact ⟨_, _, h⟩
      obtain ⟨a, c, rfl⟩ := hv
      go_wp2
      go_ret
      have := HD.out.dp
      simp only [deps, Nat.add_zero] at this
      exact ⟨by rw [← this]; rfl, HBW.out.trans (HD.out.bel.mono (by omega))⟩
    | cons i0 L =>
      obtain ⟨gl, cap, rfl, _, hgl⟩ := HD.out.own.form (by simp)
      obtain ⟨n0, xs0, hsp⟩ := HD.out.spare
      have HC := own_cut hsp
      have hap := HD.out.apart gl rfl
      generalize hLL : i0 :: L = M at *
      have hMpos : 0 < M.length := by rw [← hLL]; simp
      obtain ⟨ln, hln⟩ : ∃ ln, M.length = ln := ⟨_, rfl⟩
      rw [hln] at hlen hMpos ⊢
      have HLN := Lib.hid hln
      have HLL := Lib.hid hLL
      clear hsp hln hLL
      rcases HC with ⟨rfl, hc⟩ | ⟨gb, capb, rfl, hc⟩
      · have HC := Lib.hid hc
        clear hc
        go_wp2
        obtain ⟨wo, rfl⟩ : ∃ wo, wo = wr := ⟨_, rfl⟩
        go_loopw [5, 18] (fun b i wi => ∃ (j : Nat) (K : List It), j ≤ ln ∧ i = .int .i64 (j : Int) ∧ Rg (N + 1) 70 1 wo wi (.slice none 0 0) b K.length (K.map It.ptr) ∧ (∀ k ∈ K, OkI W1 N k) ∧ deps K = deps (M.take j) - 1 ∧ nds K + j = nds (M.take j)) (fun _ i _ => (ln - intOf i).toNat)
        case atStart => exact ⟨0, [], Nat.zero_le _, rfl, Rg.refl HC.out, by simp, by simp [deps], by simp [nds]⟩
        case round =>
          obtain ⟨j, K, hj, rfl, hR, hK, hdK, hnK⟩ := hrel
          have HR := Lib.hid hR
          have HK := Lib.hid hK
          have HDK := Lib.hid hdK
          have HNK := Lib.hid hnK
          clear hR hK hdK hnK
          by_cases hlt : j < ln
          · obtain ⟨it, hit⟩ : ∃ it, M[j]? = some it := ⟨M[j]'(by rw [HLN.out]; exact hlt), List.getElem?_eq_getElem _⟩
            have hbw : Below (N + 1) wo wr := HR.out.below HC.out HD.out.size
            have hlv : wr.heap[gl]? = wo.heap[gl]? := HR.out.grown.block gl hgl (by intro h; exact hap h.symm)
            have hcell : wr.cell? ⟨gl, j, none⟩ = some (.pointer (some ⟨it.g, it.o, none⟩)) := by
              have h1 := HD.out.own.cellAt j (by rw [HLN.out]; omega)
              rw [World.cell?_of_block (a := ⟨gl, j, none⟩) hlv, h1, List.getElem?_map, hit]; rfl
            have hmem : it ∈ M := List.mem_of_getElem? hit
            have htk : M.take (j + 1) = M.take j ++ [it] := by rw [List.take_add_one, hit]; rfl
            have hnl : nds (M.take j) ≤ nds M := by
              have := nds_app (M.take j) (M.drop j); rw [List.take_append_drop] at this; omega
            have hKl := nds_len K
            have hnk' := HNK.out
            obtain ⟨ks, hks, hdp', hnd', hcall⟩ := aparts_it (HD.out.ok it hmem) (HD.out.bel.trans hbw) u5 (K.map It.ptr) HR.out.own (by omega) (Nat.le_trans HD.out.size hbw.size)
            have HCALL := Lib.hid hcall
            have HKS := Lib.hid hks
            have HDP := Lib.hid hdp'
            have HND := Lib.hid hnd'
            have HTK := Lib.hid htk
            clear hcall hks hdp' hnd' hit hlv htk hnk' hKl hnl hmem
            unfold It.ptr at HCALL
            go_wp2_with fail
            refine HCALL.out.mono ?_
            rintro en w3 ⟨v3, rfl, hR3⟩
            have HR3 := Lib.hid hR3
            clear hR3
            go_wp2
            go_roundw
            case rel =>
              refine ⟨j + 1, K ++ ks, by omega, by go_num, ?_, ?_, ?_, ?_⟩
              · have := HR.out.trans HR3.out
                rw [List.length_append, List.map_append]
                exact this
              · intro k hk
                rcases List.mem_append.1 hk with hk | hk
                · exact HK.out k hk
                · exact HKS.out k hk
              · rw [HTK.out, deps_app, deps_app, HDK.out]
                have := HDP.out
                simp only [deps]
                omega
              · rw [HTK.out, nds_app, nds_app]
                have := HND.out
                have := HNK.out
                simp only [nds]
                omega
            case measure => simp [intOf]; omega
          · obtain rfl : j = ln := by omega
            have htk : M.take j = M := List.take_of_length_le (by rw [HLN.out]; omega)
            have hdk := HDK.out
            have hnk := HNK.out
            rw [htk] at hdk hnk
            have HDK2 := Lib.hid hdk
            have HNK2 := Lib.hid hnk
            clear hdk hnk htk
            go_wp2
            go_roundw
            case rel =>
              have hbw : Below (N + 1) wo wr := HR.out.below HC.out HD.out.size
              have hne : some gl ≠ (.slice none 0 0 : Value).ownBlock := by intro h; exact hap h.symm
              refine ⟨D + 1, K, by go_num, HD.out.bel.trans hbw, HR.out.own, ⟨j, M.map It.ptr, ?_⟩, ?_, HK.out, ?_, ?_, Nat.le_trans HD.out.size hbw.size⟩
              · have := HD.out.own
                rw [HLN.out] at this
                exact this.kept HR.out.grown (.inr hne)
              · intro k hk he
                injection he with he
                have he' : gl = k := he
                subst he'
                rcases HR.out.at_ with h | ⟨k', h, h'⟩
                · rw [hk] at h; exact hne h
                · rw [hk] at h; injection h with h; omega
              · have h1 := HDK2.out
                have h2 := HD.out.dp
                have h3 : 1 ≤ deps M := by rw [← HLL.out]; simp only [deps]; have := dep_pos i0.e; omega
                omega
              · have := HNK2.out
                have := HD.out.few
                omega
            case measure =>
              have h2 := HD.out.dp
              have h3 : 1 ≤ deps M := by rw [← HLL.out]; simp only [deps]; have := dep_pos i0.e; omega
              simp [intOf]; omega
      · have HC := Lib.hid hc
        clear hc
        go_wp2
        obtain ⟨wo, rfl⟩ : ∃ wo, wo = wr := ⟨_, rfl⟩
        go_loopw [5, 18] (fun b i wi => ∃ (j : Nat) (K : List It), j ≤ ln ∧ i = .int .i64 (j : Int) ∧ Rg (N + 1) 70 1 wo wi (.slice (some ⟨gb, 0, none⟩) 0 capb) b K.length (K.map It.ptr) ∧ (∀ k ∈ K, OkI W1 N k) ∧ deps K = deps (M.take j) - 1 ∧ nds K + j = nds (M.take j)) (fun _ i _ => (ln - intOf i).toNat)
        case atStart => exact ⟨0, [], Nat.zero_le _, rfl, Rg.refl HC.out, by simp, by simp [deps], by simp [nds]⟩
        case round =>
          obtain ⟨j, K, hj, rfl, hR, hK, hdK, hnK⟩ := hrel
          have HR := Lib.hid hR
          have HK := Lib.hid hK
          have HDK := Lib.hid hdK
          have HNK := Lib.hid hnK
          clear hR hK hdK hnK
          by_cases hlt : j < ln
          · obtain ⟨it, hit⟩ : ∃ it, M[j]? = some it := ⟨M[j]'(by rw [HLN.out]; exact hlt), List.getElem?_eq_getElem _⟩
            have hbw : Below (N + 1) wo wr := HR.out.below HC.out HD.out.size
            have hlv : wr.heap[gl]? = wo.heap[gl]? := HR.out.grown.block gl hgl (by intro h; exact hap h.symm)
            have hcell : wr.cell? ⟨gl, j, none⟩ = some (.pointer (some ⟨it.g, it.o, none⟩)) := by
              have h1 := HD.out.own.cellAt j (by rw [HLN.out]; omega)
              rw [World.cell?_of_block (a := ⟨gl, j, none⟩) hlv, h1, List.getElem?_map, hit]; rfl
            have hmem : it ∈ M := List.mem_of_getElem? hit
            have htk : M.take (j + 1) = M.take j ++ [it] := by rw [List.take_add_one, hit]; rfl
            have hnl : nds (M.take j) ≤ nds M := by
              have := nds_app (M.take j) (M.drop j); rw [List.take_append_drop] at this; omega
            have hKl := nds_len K
            have hnk' := HNK.out
            obtain ⟨ks, hks, hdp', hnd', hcall⟩ := aparts_it (HD.out.ok it hmem) (HD.out.bel.trans hbw) u5 (K.map It.ptr) HR.out.own (by omega) (Nat.le_trans HD.out.size hbw.size)
            have HCALL := Lib.hid hcall
            have HKS := Lib.hid hks
            have HDP := Lib.hid hdp'
            have HND := Lib.hid hnd'
            have HTK := Lib.hid htk
            clear hcall hks hdp' hnd' hit hlv htk hnk' hKl hnl hmem
            unfold It.ptr at HCALL
            go_wp2_with fail
            refine HCALL.out.mono ?_
            rintro en w3 ⟨v3, rfl, hR3⟩
            have HR3 := Lib.hid hR3
            clear hR3
            go_wp2
            go_roundw
            case rel =>
              refine ⟨j + 1, K ++ ks, by omega, by go_num, ?_, ?_, ?_, ?_⟩
              · have := HR.out.trans HR3.out
                rw [List.length_append, List.map_append]
                exact this
              · intro k hk
                rcases List.mem_append.1 hk with hk | hk
                · exact HK.out k hk
                · exact HKS.out k hk
              · rw [HTK.out, deps_app, deps_app, HDK.out]
                have := HDP.out
                simp only [deps]
                omega
              · rw [HTK.out, nds_app, nds_app]
                have := HND.out
                have := HNK.out
                simp only [nds]
                omega
            case measure => simp [intOf]; omega
          · obtain rfl : j = ln := by omega
            have htk : M.take j = M := List.take_of_length_le (by rw [HLN.out]; omega)
            have hdk := HDK.out
            have hnk := HNK.out
            rw [htk] at hdk hnk
            have HDK2 := Lib.hid hdk
            have HNK2 := Lib.hid hnk
            clear hdk hnk htk
            go_wp2
            go_roundw
            case rel =>
              have hbw : Below (N + 1) wo wr := HR.out.below HC.out HD.out.size
              have hne : some gl ≠ (.slice (some ⟨gb, 0, none⟩) 0 capb : Value).ownBlock := by intro h; exact hap h.symm
              refine ⟨D + 1, K, by go_num, HD.out.bel.trans hbw, HR.out.own, ⟨j, M.map It.ptr, ?_⟩, ?_, HK.out, ?_, ?_, Nat.le_trans HD.out.size hbw.size⟩
              · have := HD.out.own
                rw [HLN.out] at this
                exact this.kept HR.out.grown (.inr hne)
              · intro k hk he
                injection he with he
                have he' : gl = k := he
                subst he'
                rcases HR.out.at_ with h | ⟨k', h, h'⟩
                · rw [hk] at h; exact hne h
                · rw [hk] at h; injection h with h; omega
              · have h1 := HDK2.out
                have h2 := HD.out.dp
                have h3 : 1 ≤ deps M := by rw [← HLL.out]; simp only [deps]; have := dep_pos i0.e; omega
                omega
              · have := HNK2.out
                have := HD.out.few
                omega
            case measure =>
              have h2 := HD.out.dp
              have h3 : 1 ≤ deps M := by rw [← HLL.out]; simp only [deps]; have := dep_pos i0.e; omega
              simp [intOf]; omega
end Go.Proofs.YtmomdcnlhljhcaaDoor
