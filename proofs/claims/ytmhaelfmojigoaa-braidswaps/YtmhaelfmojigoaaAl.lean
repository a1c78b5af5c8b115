/- Rows of events; slices.IndexFunc and ContainsFunc over them. -/
import Derived.Test.YtmhaelfmojigoaaXp
set_option linter.unusedSimpArgs false
set_option linter.unusedVariables false
namespace Go.Proofs.Ytmhaelfmojigoaa
open Go.RowKit

/-- Its block, if it has one, lies below. -/
def Blw (B : Nat) (u : Value) : Prop := ∀ q, u.ownBlock = some q → q < B
structure AlI (w : World) (base : Nat) (v : Value) (L : List Evl) (us : List Value) : Prop where
  own : w.ownsRow base 25 1 v L.length us
  rows : ∀ (i : Nat) (y : Evl), L[i]? = some y → ∃ u, us[i]? = some u ∧ EvSP (Blw base) w u y ∧ ∀ q, u.ownBlock = some q → v.ownBlock ≠ some q
theorem AlI.kept {w w' : World} {base : Nat} {v : Value} {L : List Evl} {us : List Value} (h : AlI w base v L us) (k : Below w.heap.size w w') : AlI w' base v L us :=
  ⟨own_kept h.own k, fun i y hy => by obtain ⟨u, h1, h2, h3⟩ := h.rows i y hy; exact ⟨u, h1, h2.kept k, h3⟩⟩
theorem EvSP.form {P : Value → Prop} {w : World} {v : Value} {x : Evl} (h : EvSP P w v x) : ∃ p cap, v = .slice p x.length cap := by
  obtain ⟨p, cap, h1, _⟩ := h
  exact ⟨p, cap, h1⟩
theorem evl_info : ∃ i0, Try.prog.info? 25 = some i0 ∧ i0.zero = some (.slice Option.none 0 0) ∧ i0.size = 1 ∧ i0.bytes = 24 := info_parts (by kernel_rfl)
/-- A row appended. -/
theorem app_al (W : World) (base : Nat) (v u : Value) (L : List Evl) (us : List Value) (y : Evl) (h : AlI W base v L us) (hl : L.length ≤ 1000) (hb : base ≤ W.heap.size) (a : Addr) (h0 : W.cell? (a.add 0) = some u) (hu : EvSP (Blw base) W u y) (hq : ∀ q, u.ownBlock = some q → v.ownBlock ≠ some q) :
    ∃ p m c w', (∀ ty, (Builtin.append_ #[44, 44] ty #[v, .slice (some a) 1 1]).run Try.prog W = .ok (.slice p m c) w') ∧ AlI w' base (.slice p m c) (L ++ [y]) (us ++ [u]) ∧ W.grownBy w' v.ownBlock := by
  obtain ⟨i0, hi, hz, hs, hby⟩ := evl_info
  have hn : ∀ j c, ([u] : List Value)[j]? = some c → W.cell? (a.add j) = some c := by
    intro j c hj
    match j with
    | 0 => simp at hj; rw [← hj]; exact h0
    | j + 1 => simp at hj
  obtain ⟨pu, cu, hue⟩ := hu.form
  have key := fun ty => run_append_own_at (P := Try.prog) W base 44 ty 25 i0 _ 1 24 Try.underlying44 hi hz hs hby rfl (by omega) v L.length us h.own a 1 1 [u] rfl hn (by intro c hc; simp at hc; rw [hc, hue]; rfl) (by unfold maxLen; omega) (by omega) hb
  obtain ⟨v', w', hr, ho, hg, _, hat⟩ := key 0
  obtain ⟨p, m, c, rfl⟩ := own_form ho
  have hlen : us.length = L.length := by have := h.own.1; omega
  have hne : ∀ {k : Value} {z : Evl}, EvSP (Blw base) W k z → (∀ q, k.ownBlock = some q → v.ownBlock ≠ some q) → EvSP (Blw base) w' k z ∧ ∀ q, k.ownBlock = some q → (Value.slice p m c).ownBlock ≠ some q := by
    intro k z hc hcq
    refine ⟨hc.grown hg hcq (fun t ht q hq' e => ?_), fun q hq' e => ?_⟩
    · have h1 := ht q hq'
      have h2 := (h.own.lt q e).1
      omega
    · rcases hat with hat | hat
      · exact hcq q hq' (hat ▸ e)
      · rw [hat] at e
        have h1 := hc.blk hq'
        have h2 := Option.some.inj e
        omega
  refine ⟨p, m, c, w', fun ty => ?_, ⟨by simpa using ho, fun i z hi => ?_⟩, hg⟩
  · obtain ⟨v2, w2, hr2, _⟩ := key ty
    exact hr
  · by_cases hix : i < L.length
    · rw [List.getElem?_append_left hix] at hi
      obtain ⟨k, h4, h5, h6⟩ := h.rows i z hi
      obtain ⟨g1, g2⟩ := hne h5 h6
      exact ⟨k, by rw [List.getElem?_append_left (by omega)]; exact h4, g1, g2⟩
    · rw [List.getElem?_append_right (by omega)] at hi
      have hi0 : i - L.length = 0 := by
        have := (List.getElem?_eq_some_iff.1 hi).1
        simp at this; omega
      rw [hi0] at hi
      simp only [List.getElem?_cons_zero, Option.some.injEq] at hi
      subst hi
      have hie : i = L.length := by omega
      subst hie
      obtain ⟨g1, g2⟩ := hne hu hq
      refine ⟨u, ?_, g1, g2⟩
      rw [List.getElem?_append_right (by omega), hlen, Nat.sub_self]; rfl
/-- What a row answers when it is read. -/
theorem AlI.at {w : World} {base g n cap : Nat} {L : List Evl} {us : List Value} (h : AlI w base (.slice (some ⟨g, 0, Option.none⟩) n cap) L us) {i : Nat} {y : Evl} (hy : L[i]? = some y) :
    ∃ u, w.cell? ⟨g, i, Option.none⟩ = some u ∧ EvSP (Blw base) w u y ∧ ∀ q, u.ownBlock = some q → g ≠ q := by
  have hown := h.own
  have hn : n = L.length := by
    rcases hown.2 with ⟨e, _⟩ | ⟨g', cap', cur, e, _⟩
    · simp at e
    · simp at e; omega
  subst hn
  obtain ⟨u, h1, h2, h3⟩ := h.rows i y hy
  have hi := (List.getElem?_eq_some_iff.1 hy).1
  exact ⟨u, by rw [hown.cellAt i (by omega)]; exact h1, h2, fun q hq e => h3 q hq (by rw [← e]; rfl)⟩

set_option maxRecDepth 100000 in
set_option maxHeartbeats 8000000 in
theorem indexf_any (y : Evl) (g : Nat) (lb : Array Value) (eg : ∀ args w, (callFunc g args).run Try.prog w = .ok (.enter g args) w) (L : List Evl) (us : List Value) (base : Nat) (v : Value) (w : World) (h : AlI w base v L us) (hl : L.length ≤ 1000)
    (hp : ∀ W u z, Below w.heap.size w W → EvS W u z → z ∈ L → Calls Try.prog g (#[u] ++ lb) W fun e w' => e = .returned (.bool (decide (y = z))) ∧ Below W.heap.size W w') :
    Calls Try.prog 41 #[v, .func (.func g) #[] lb] w fun e w' => (∃ r : Int, e = .returned (.int .i64 r) ∧ (0 ≤ r ↔ y ∈ L)) ∧ Below w.heap.size w w' := by
  have HP := Lib.hid hp
  have HH := Lib.hid h
  clear hp
  rcases h.own.2 with ⟨rfl, h0⟩ | ⟨B, cap, cur, rfl, hbg, hg, hn, hm, hz, ht⟩
  · have hL := List.eq_nil_of_length_eq_zero h0
    subst hL
    clear h h0
    go_enter Try.func41, Try.ntmps41
    go_wp2
    go_loopw [8] (fun s wr => s = .int .i64 0 ∧ wr = w) (fun s _ => 0)
    case atStart => exact ⟨rfl, rfl⟩
    case round =>
      obtain ⟨rfl, rfl⟩ := hrel
      go_wp2
      go_ret
      exact ⟨⟨-1, rfl, by simp⟩, Below.refl _ _⟩
  · obtain ⟨N, hN⟩ : ∃ N, L.length = N := ⟨_, rfl⟩
    rw [hN] at HH hl hn ⊢
    have HN := Lib.hid hN
    clear h hg hz ht hN hbg
    go_enter Try.func41, Try.ntmps41
    go_wp2
    go_loopw [8] (fun s wr => ∃ (j : Nat), s = .int .i64 (j : Int) ∧ j ≤ N ∧ y ∉ L.take j ∧ Below w.heap.size w wr) (fun s _ => N - (intOf s).toNat)
    case atStart => exact ⟨0, rfl, by omega, by simp, Below.refl _ _⟩
    case round =>
      obtain ⟨j, rfl, hj, hn', hb⟩ := hrel
      have HNT := Lib.hid hn'
      have HB := Lib.hid hb
      clear hn' hb
      by_cases hlt : j < N
      · obtain ⟨z, hz⟩ : ∃ z, L[j]? = some z := ⟨_, List.getElem?_eq_getElem (by rw [HN.out]; exact hlt)⟩
        obtain ⟨u, c0, hu, _⟩ := (HH.out.kept HB.out).at hz
        have hcall := HP.out wr u z HB.out hu.toS (List.mem_of_getElem? hz)
        have HZ := Lib.hid hz
        clear hz hu
        by_cases hyz : y = z
        · have hd : decide (y = z) = true := decide_eq_true hyz
          rw [hd] at hcall
          have HY := Lib.hid hyz
          have HC := Lib.hid hcall
          clear hd hcall hyz
          go_wp2_with (go_at_fn g; refine HC.out.mono ?_; rintro e w' ⟨rfl, hb2⟩)
          have HB2 := Lib.hid (HB.out.trans (hb2.mono HB.out.size))
          clear hb2
          go_wp2
          go_ret
          exact ⟨⟨(j : Int), rfl, ⟨fun _ => by rw [HY.out]; exact List.mem_of_getElem? HZ.out, fun _ => by omega⟩⟩, HB2.out⟩
        · have hd : decide (y = z) = false := decide_eq_false hyz
          rw [hd] at hcall
          have HY := Lib.hid hyz
          have HC := Lib.hid hcall
          clear hd hcall hyz
          go_wp2_with (go_at_fn g; refine HC.out.mono ?_; rintro e w' ⟨rfl, hb2⟩)
          have HB2 := Lib.hid (HB.out.trans (hb2.mono HB.out.size))
          have HT2 : Hid (y ∉ L.take (j + 1)) := Lib.hid (by
            rw [show L.take (j + 1) = L.take j ++ (L[j]?).toList from List.take_add_one, HZ.out]
            simp only [Option.toList_some, List.mem_append, List.mem_singleton, not_or]
            exact ⟨HNT.out, HY.out⟩)
          clear hb2 c0
          go_wp2
          go_roundw
          case rel => exact ⟨j + 1, by go_num, by omega, HT2.out, HB2.out⟩
          case measure => simp [intOf]; omega
      · have hn : y ∉ L := by have := HNT.out; rwa [List.take_of_length_le (by rw [HN.out]; omega)] at this
        have HN2 := Lib.hid hn
        clear hn
        go_wp2
        go_ret
        exact ⟨⟨-1, rfl, ⟨fun h => by omega, fun h => absurd h HN2.out⟩⟩, HB.out⟩
set_option maxHeartbeats 2000000 in
theorem containsf_any (y : Evl) (g : Nat) (lb : Array Value) (eg : ∀ args w, (callFunc g args).run Try.prog w = .ok (.enter g args) w) (L : List Evl) (us : List Value) (base : Nat) (v : Value) (w : World) (h : AlI w base v L us) (hl : L.length ≤ 1000)
    (hp : ∀ W u z, Below w.heap.size w W → EvS W u z → z ∈ L → Calls Try.prog g (#[u] ++ lb) W fun e w' => e = .returned (.bool (decide (y = z))) ∧ Below W.heap.size W w') :
    Calls Try.prog 25 #[v, .func (.func g) #[] lb] w fun e w' => e = .returned (.bool (decide (y ∈ L))) ∧ Below w.heap.size w w' := by
  have HI := Lib.hid (indexf_any y g lb eg L us base v w h hl hp)
  clear h hp
  go_enter Try.func25, Try.ntmps25
  go_wp2_with (go_at_call 41; refine Hid.out ?_)
  refine Lib.hid ?_
  refine HI.out.mono ?_
  rintro e w1 ⟨⟨r, rfl, hr⟩, hb⟩
  have HB := Lib.hid hb
  clear hb
  by_cases h : 0 ≤ r
  · have hm : decide (y ∈ L) = true := decide_eq_true (hr.1 h)
    have HM := Lib.hid hm
    clear hm hr
    go_wp2
    go_ret
    exact ⟨by rw [HM.out]; simp, HB.out⟩
  · have hm : decide (y ∈ L) = false := decide_eq_false fun hn => h (hr.2 hn)
    have HM := Lib.hid hm
    clear hm hr
    go_wp2
    go_ret
    exact ⟨by rw [HM.out]; simp; omega, HB.out⟩
set_option maxHeartbeats 2000000 in
/-- The closure of all: are the events the same as what it holds? -/
theorem cls62 (y z : Evl) (vy u : Value) (b : Nat) (W : World) (h0 : W.cell? ⟨b, 0, Option.none⟩ = some vy) (h1 : EvS W vy y) (h2 : EvS W u z) (hl : y.length ≤ 1000) (hl2 : z.length ≤ 1000) (h8 : ∀ e ∈ y, e.2.length ≤ 1000) (h9 : ∀ e ∈ z, e.2.length ≤ 1000) :
    Calls Try.prog 42 #[u, .pointer (some ⟨b, 0, Option.none⟩)] W fun e w' => e = .returned (.bool (decide (y = z))) ∧ Below W.heap.size W w' := by
  have HC := Lib.hid (equal_evs y z vy u W h1 h2 hl hl2 h8 h9)
  obtain ⟨d, hd⟩ : ∃ d, decide (y = z) = d := ⟨_, rfl⟩
  rw [hd] at HC ⊢
  clear h1 h2 hl hl2 h8 h9 hd
  go_enter Try.func42, Try.ntmps42
  go_wp2_with (go_at_call 15; refine Hid.out ?_)
  refine Lib.hid ?_
  refine HC.out.mono ?_
  rintro e w' ⟨rfl, hb⟩
  have HB := Lib.hid hb
  clear hb
  go_wp2
  go_ret
  exact ⟨rfl, HB.out⟩
end Go.Proofs.Ytmhaelfmojigoaa
