import Derived.Test.YtoplhkpbicgceaaPvA
namespace Go.Proofs.Ytoplhkpbicgceaa
open Go.RowKit
set_option linter.unusedVariables false
/-- What Split answers. -/
def SpA (w : World) (l : Tx) (a : Option Addr) (n c : Nat) (w' : World) : Prop := ∃ og, OgR RS og (.slice a n c) (splF l).1 w' ∧ (∀ g, og = some g → w.heap.size ≤ g) ∧ Nw w w'
theorem SpA.none {w w' : World} {l : Tx} (h : splE l ≠ 0) (hN : Nw w w') : SpA w l .none 0 0 w' := ⟨.none, by unfold splF; rw [if_neg h]; exact ⟨rfl, rfl⟩, fun g hg => (by cases hg), hN⟩
theorem cps_len (l : Tx) (hl : l.length ≤ 4096) : (pcs l).length ≤ 4097 ∧ (cps l).length ≤ 4097 := by
  have h1 := pcs_len l
  have h2 : (cps l).length ≤ (pcs l).length := List.length_filter_le _ _
  omega
theorem tot_mem {p : Tx} {ps : List Tx} (h : p ∈ ps) : p.length ≤ tot ps := by
  induction ps with
  | nil => cases h
  | cons q r ih =>
    rw [tot]
    rcases List.mem_cons.1 h with e | e
    · subst e; omega
    · have := ih e; omega
set_option maxHeartbeats 16000000 in
set_option maxRecDepth 100000 in
theorem psplit_any (w : World) (l : Tx) (hl : l.length ≤ 140737488351232) :
    Calls Try.prog 15 #[.string (mk l)] w fun e w' => ∃ a n c, e = .returned (.tuple #[.slice a n c, .int .i64 ((splE l : Nat) : Int)]) ∧ SpA w l a n c w' := by
  obtain ⟨P, hP⟩ : ∃ P : Ending → World → Prop, P = fun e w' => ∃ a n c, e = .returned (.tuple #[.slice a n c, .int .i64 ((splE l : Nat) : Int)]) ∧ SpA w l a n c w' := ⟨_, rfl⟩
  rw [← hP]
  have HBAD : Hid (∀ (k : Nat) (z : Int), splE l = k → k ≠ 0 → (k : Int) = z → ∀ V, Nw w V → P (.returned (.tuple #[.slice none 0 0, .int .i64 z])) V) := fun k z hk h0 hz V hV => by
    rw [hP]; exact ⟨none, 0, 0, by rw [hk, hz], SpA.none (by rw [hk]; exact h0) hV⟩
  have hsz := mk_size l
  by_cases h1 : 4096 < l.length
  · have HF : Hid (P (.returned (.tuple #[.slice none 0 0, .int .i64 2])) w) := HBAD.out 2 2 (by unfold splE; rw [if_pos h1]) (by decide) rfl w (Fr.refl _ _)
    have z1 : 4096 < (mk l).size := by omega
    have z2 : (4096 : Int) < ((mk l).size : Int) := by omega
    have z3 : (mk l).size ≤ 140737488351232 := by omega
    clear hP HBAD h1 hsz hl
    generalize mk l = s at *
    go_enter Try.func15, Try.ntmps15
    go_wp2_with fail
    exact HF.out
  have hl1 : l.length ≤ 4096 := by omega
  obtain ⟨hp1, hp2⟩ := cps_len l hl1
  obtain ⟨W1, hW1⟩ : ∃ W1, w.alloc (.cells #[.slice none 0 0] 38) = W1 := ⟨_, rfl⟩
  have hN1 : Nw w W1 := by rw [← hW1]; exact (Fr.refl _ _).alloc _
  have hrow : W1.heap[w.heap.size]? = some (.cells #[.slice none 0 0] 38) := by
    rw [← hW1]
    show (w.heap.push _)[w.heap.size]? = _
    simp
  have hJ0 : spJ w w.heap.size [] W1 := ⟨none, none, 0, 0, (cell_of_row hrow 0 _ rfl).1, (cell_of_row hrow 0 _ rfl).2, ⟨rfl, rfl⟩, fun g hg => (by cases hg), hN1, Nat.le_refl _, rfl, Nat.le_refl _, by decide⟩
  have HSP : Hid (Calls Try.prog 22 #[.string (mk l), .func (.func 23) #[] #[.pointer (some ⟨w.heap.size, 0, none⟩)]] W1 fun e w' => e = .returned (.bool (decide (([46, 46] : Tx) ∈ pcs l))) ∧ ∃ a n c, w'.cell? ⟨w.heap.size, 0, none⟩ = some (.slice a n c) ∧ n ≤ c ∧ c < 9223372036854775808 ∧ Hid (Nw w w' ∧ (([46, 46] : Tx) ∉ pcs l → (cps l).length = n ∧ ∃ og, OgR RS og (.slice a n c) (cps l) w' ∧ (∀ g, og = some g → w.heap.size ≤ g)))) := by
    show Calls _ _ _ _ _
    refine (somePiece_any _ _ _ _ _ (sp_so w w.heap.size) l (by omega) hl W1 hJ0).mono ?_
    rintro e w' ⟨rfl, hJ⟩
    refine ⟨by rw [up_some], ?_⟩
    obtain ⟨og, a, n, c, h1, h2, h3, h4, h5, h6, h7, h8, h9⟩ := hJ
    refine ⟨a, n, c, h1, h8, h9, h5, fun hu => ?_⟩
    rw [up_none _ _ hu, List.nil_append] at h3 h7
    exact ⟨h7, og, h3, fun g hg => (h4 g hg).1⟩
  have HC0 := tHid (fun V => cont_0 l V hl)
  have HHP := tHid (fun V => hp_any l V hl)
  have z1 : ¬ 4096 < (mk l).size := by omega
  have z2 : ¬ (4096 : Int) < ((mk l).size : Int) := by omega
  have z3 : (mk l).size ≤ 4096 := by omega
  have HW1 : Hid (w.alloc (.cells #[.slice none 0 0] 38) = W1) := hW1
  have HE : Hid (splE l = if (0 : UInt8) ∈ l then 93 else if l.head? = some 47 then 91 else if ([46, 46] : Tx) ∈ pcs l then 92 else if cps l = [] then 90 else if ∃ p ∈ cps l, 255 < p.length then 94 else if 256 < (cps l).length then 95 else 0) := by
    show _ = _
    unfold splE; rw [if_neg h1]
  have HPB : Hid (∀ p ∈ cps l, p.length ≤ 140737488351232) := fun p hp => by
    have hm := (cps_mem hp).1
    have ht := pcs_tot l
    have := tot_mem hm
    omega
  have HOK : Hid (∀ a n c V, splE l = 0 → Nw w V → (∃ og, OgR RS og (.slice a n c) (cps l) V ∧ (∀ g, og = some g → w.heap.size ≤ g)) → P (.returned (.tuple #[.slice a n c, .int .i64 0])) V) := fun a n c V h0 hV ⟨og, h2, h3⟩ => by
    rw [hP]
    refine ⟨a, n, c, by rw [h0]; rfl, og, ?_, h3, hV⟩
    unfold splF; rw [if_pos h0]; exact h2
  clear hP hsz h1 hN1 hrow hJ0 hl hl1
  by_cases b1 : (0 : UInt8) ∈ l
  · rw [decide_eq_true b1] at HC0
    have hE := HE.out
    rw [if_pos b1] at hE
    have HF := tHid (HBAD.out 93 93 hE (by decide) rfl)
    clear HE HBAD HOK b1 hE hp1 hp2 HPB
    generalize decide (([46, 46] : Tx) ∈ pcs l) = D at *
    generalize decide (l.head? = some 47) = A at *
    generalize mk l = s at *
    have hW1 := HW1.out
    clear HW1
    go_enter Try.func15, Try.ntmps15
    go_wp2_with (first
    | (go_at_call 22; with_reducible refine HSP.out.mono ?_; rintro e w1 ⟨rfl, a, n, c, hc, q1, q2, H1⟩)
    | (go_at_call 25; with_reducible refine (HC0.out _).mono ?_; rintro e w2 ⟨rfl, hw⟩; (subst hw))
    | (go_at_call 26; with_reducible refine (HHP.out _).mono ?_; rintro e w2 ⟨rfl, hw⟩; (subst hw)))
    exact HF.out _ H1.out.1
  rw [decide_eq_false b1] at HC0
  by_cases b2 : l.head? = some 47
  · rw [decide_eq_true b2] at HHP
    have hE := HE.out
    rw [if_neg b1, if_pos b2] at hE
    have HF := tHid (HBAD.out 91 91 hE (by decide) rfl)
    clear HE HBAD HOK b1 b2 hE hp1 hp2 HPB
    generalize decide (([46, 46] : Tx) ∈ pcs l) = D at *
    generalize mk l = s at *
    have hW1 := HW1.out
    clear HW1
    go_enter Try.func15, Try.ntmps15
    go_wp2_with (first
    | (go_at_call 22; with_reducible refine HSP.out.mono ?_; rintro e w1 ⟨rfl, a, n, c, hc, q1, q2, H1⟩)
    | (go_at_call 25; with_reducible refine (HC0.out _).mono ?_; rintro e w2 ⟨rfl, hw⟩; (subst hw))
    | (go_at_call 26; with_reducible refine (HHP.out _).mono ?_; rintro e w2 ⟨rfl, hw⟩; (subst hw)))
    exact HF.out _ H1.out.1
  rw [decide_eq_false b2] at HHP
  by_cases b3 : ([46, 46] : Tx) ∈ pcs l
  · rw [decide_eq_true b3] at HSP
    have hE := HE.out
    rw [if_neg b1, if_neg b2, if_pos b3] at hE
    have HF := tHid (HBAD.out 92 92 hE (by decide) rfl)
    clear HE HBAD HOK b1 b2 b3 hE hp1 hp2 HPB
    generalize mk l = s at *
    have hW1 := HW1.out
    clear HW1
    go_enter Try.func15, Try.ntmps15
    go_wp2_with (first
    | (go_at_call 22; with_reducible refine HSP.out.mono ?_; rintro e w1 ⟨rfl, a, n, c, hc, q1, q2, H1⟩)
    | (go_at_call 25; with_reducible refine (HC0.out _).mono ?_; rintro e w2 ⟨rfl, hw⟩; (subst hw))
    | (go_at_call 26; with_reducible refine (HHP.out _).mono ?_; rintro e w2 ⟨rfl, hw⟩; (subst hw)))
    exact HF.out _ H1.out.1
  rw [decide_eq_false b3] at HSP
  have hE := HE.out
  rw [if_neg b1, if_neg b2, if_neg b3] at hE
  by_cases b4 : cps l = []
  · rw [if_pos b4] at hE
    have HF := tHid (HBAD.out 90 90 hE (by decide) rfl)
    have HSP2 : Hid (Calls Try.prog 22 #[.string (mk l), .func (.func 23) #[] #[.pointer (some ⟨w.heap.size, 0, none⟩)]] W1 fun e w' => e = .returned (.bool false) ∧ ∃ a c, w'.cell? ⟨w.heap.size, 0, none⟩ = some (.slice a 0 c) ∧ c < 9223372036854775808 ∧ Hid (Nw w w')) := by
      show Calls _ _ _ _ _
      refine HSP.out.mono ?_
      rintro e w' ⟨rfl, a, n, c, h1, h2, h3, h4⟩
      obtain ⟨h5, _⟩ := h4.out.2 b3
      rw [b4] at h5
      have : n = 0 := h5.symm
      subst this
      exact ⟨rfl, a, c, h1, h3, h4.out.1⟩
    clear HE HBAD HOK b1 b2 b3 hE hp1 hp2 HPB HSP b4
    generalize mk l = s at *
    have hW1 := HW1.out
    clear HW1
    go_enter Try.func15, Try.ntmps15
    go_wp2_with (first
      | (go_at_call 22; with_reducible refine HSP2.out.mono ?_; rintro e w1 ⟨rfl, a, c, hc, q2, H1⟩)
      | (go_at_call 25; with_reducible refine (HC0.out _).mono ?_; rintro e w2 ⟨rfl, hw⟩; (subst hw))
      | (go_at_call 26; with_reducible refine (HHP.out _).mono ?_; rintro e w2 ⟨rfl, hw⟩; (subst hw)))
    exact HF.out _ H1.out
  rw [if_neg b4] at hE
  have hlen : 0 < (cps l).length := List.length_pos_iff.2 b4
  obtain ⟨N, hNe⟩ : ∃ N, N = (cps l).length := ⟨_, rfl⟩
  have HSP2 : Hid (Calls Try.prog 22 #[.string (mk l), .func (.func 23) #[] #[.pointer (some ⟨w.heap.size, 0, none⟩)]] W1 fun e w' => e = .returned (.bool false) ∧ ∃ a c, w'.cell? ⟨w.heap.size, 0, none⟩ = some (.slice a N c) ∧ N ≤ c ∧ c < 9223372036854775808 ∧ Hid (Nw w w' ∧ ∃ og, OgR RS og (.slice a N c) (cps l) w' ∧ (∀ g, og = some g → w.heap.size ≤ g)) ∧ Hid (Calls Try.prog 27 #[.slice a N c, .func (.func 28) #[] #[]] w' fun e w'' => e = .returned (.bool (tlF (cps l))) ∧ w''.cell? ⟨w.heap.size, 0, none⟩ = some (.slice a N c) ∧ Hid (Nw w' w''))) := by
    show Calls _ _ _ _ _
    refine HSP.out.mono ?_
    rintro e w' ⟨rfl, a, n, c, h1, h2, h3, h4⟩
    obtain ⟨h5, og, h6, h7⟩ := h4.out.2 b3
    have : n = N := by rw [hNe, h5]
    subst this
    refine ⟨rfl, a, c, h1, h2, h3, ⟨h4.out.1, og, h6, h7⟩, ?_⟩
    show Calls _ _ _ _ _
    exact (containsF_any w' _ _ (h6.slr rsOk).any HPB.out).mono (fun e w'' ⟨k1, k2⟩ => ⟨k1, k2.cell h1, k2⟩)
  have hN0 : 0 < N := by omega
  have hNn : ¬ (N : Int) = 0 := by omega
  have hNb : N ≤ 4097 := by omega
  by_cases b5 : ∃ p ∈ cps l, 255 < p.length
  · rw [if_pos b5] at hE
    have HF := tHid (HBAD.out 94 94 hE (by decide) rfl)
    have ht := (tlF_iff (cps l)).2 b5
    have HNT : Hid (∀ V V', Nw w V → Nw V V' → Nw w V') := fun V V' h k => h.trans k
    rw [ht] at HSP2
    clear HE HBAD HOK b1 b2 b3 hE hp1 hp2 HPB HSP b4 hlen hNe b5 ht
    generalize mk l = s at *
    have hW1 := HW1.out
    clear HW1
    go_enter Try.func15, Try.ntmps15
    go_wp2_with (first
      | (go_at_call 22; with_reducible refine HSP2.out.mono ?_; rintro e w1 ⟨rfl, a, c, hc, q1, q2, H1, H2⟩)
      | (go_at_call 25; with_reducible refine (HC0.out _).mono ?_; rintro e w2 ⟨rfl, hw⟩; (subst hw))
      | (go_at_call 26; with_reducible refine (HHP.out _).mono ?_; rintro e w2 ⟨rfl, hw⟩; (subst hw))
      | (go_at_call 27; with_reducible refine H2.out.mono ?_; rintro e w3 ⟨rfl, hc3, H3⟩))
    exact HF.out _ (HNT.out _ _ H1.out.1 H3.out)
  rw [if_neg b5] at hE
  have ht : tlF (cps l) = false := by
    cases h : tlF (cps l) with
    | false => rfl
    | true => exact absurd ((tlF_iff _).1 h) b5
  rw [ht] at HSP2
  have HNT : Hid (∀ V V', Nw w V → Nw V V' → Nw w V') := fun V V' h k => h.trans k
  by_cases b6 : 256 < N
  · rw [if_pos (by omega)] at hE
    have HF := tHid (HBAD.out 95 95 hE (by decide) rfl)
    have y1 : (256 : Int) < (N : Int) := by omega
    clear HE HBAD HOK b1 b2 b3 hE hp1 hp2 HPB HSP b4 hlen hNe b5 ht
    generalize mk l = s at *
    have hW1 := HW1.out
    clear HW1
    go_enter Try.func15, Try.ntmps15
    go_wp2_with (first
      | (go_at_call 22; with_reducible refine HSP2.out.mono ?_; rintro e w1 ⟨rfl, a, c, hc, q1, q2, H1, H2⟩)
      | (go_at_call 25; with_reducible refine (HC0.out _).mono ?_; rintro e w2 ⟨rfl, hw⟩; (subst hw))
      | (go_at_call 26; with_reducible refine (HHP.out _).mono ?_; rintro e w2 ⟨rfl, hw⟩; (subst hw))
      | (go_at_call 27; with_reducible refine H2.out.mono ?_; rintro e w3 ⟨rfl, hc3, H3⟩))
    exact HF.out _ (HNT.out _ _ H1.out.1 H3.out)
  · rw [if_neg (by omega)] at hE
    have HF : Hid (∀ a c V V', (Nw w V ∧ ∃ og, OgR RS og (.slice a N c) (cps l) V ∧ (∀ g, og = some g → w.heap.size ≤ g)) → Nw V V' → P (.returned (.tuple #[.slice a N c, .int .i64 0])) V') := fun a c V V' h k => by
      obtain ⟨h1, og, h2, h3⟩ := h
      exact HOK.out a N c V' hE (h1.trans k) ⟨og, h2.nw k, h3⟩
    have y1 : ¬ (256 : Int) < (N : Int) := by omega
    clear HE HBAD HOK b1 b2 b3 hE hp1 hp2 HPB HSP b4 hlen hNe b5 ht
    generalize mk l = s at *
    have hW1 := HW1.out
    clear HW1
    go_enter Try.func15, Try.ntmps15
    go_wp2_with (first
      | (go_at_call 22; with_reducible refine HSP2.out.mono ?_; rintro e w1 ⟨rfl, a, c, hc, q1, q2, H1, H2⟩)
      | (go_at_call 25; with_reducible refine (HC0.out _).mono ?_; rintro e w2 ⟨rfl, hw⟩; (subst hw))
      | (go_at_call 26; with_reducible refine (HHP.out _).mono ?_; rintro e w2 ⟨rfl, hw⟩; (subst hw))
      | (go_at_call 27; with_reducible refine H2.out.mono ?_; rintro e w3 ⟨rfl, hc3, H3⟩))
    exact HF.out _ _ _ _ H1.out H3.out
end Go.Proofs.Ytoplhkpbicgceaa
