import Derived.Test.YtenkchhlaphocaaDoorNkC
namespace Go.Proofs.YtenkchhlaphocaaDoor
open Go.RowKit
set_option linter.unusedVariables false
/-! ### PaxBack -/
theorem prs_wt (b : Bs) (p : Nat) (acc : List Pr) (hp : p ≤ b.length) (h : wtP acc ≤ 3 * p) : wtP (prs b p acc).1 ≤ 3 * b.length := by
  induction hk : b.length - p using Nat.strongRecOn generalizing p acc with
  | _ k ih =>
    by_cases hlt : p < b.length
    · cases hr : rc1 (b.drop p) with
      | bad n e => rw [prs_bad b p acc hlt n e hr]; simp [wtP]
      | ok x n =>
        have h5 := rc1_ok hr
        rw [List.length_drop] at h5
        rw [prs_ok b p acc hlt x n hr]
        refine ih (b.length - (p + n)) (by omega) (p + n) (acc ++ [x]) (by omega) ?_ rfl
        unfold wtP at h ⊢
        rw [List.map_append, List.sum_append]
        simp only [List.map_cons, List.map_nil, List.sum_cons, List.sum_nil]
        omega
    · rw [prs_end b p acc hlt]
      show wtP acc ≤ _
      omega
theorem prE_zero {l : List Pr} (h : prE l = 0) : ∀ x ∈ l, canP x = true ∧ lng x ≠ 0 := by
  unfold prE at h
  split at h
  · rename_i h1
    split at h
    · rename_i h2
      exact fun x hx => ⟨h1 x hx, h2 x hx⟩
    · cases h
  · cases h
theorem prE_of {l : List Pr} (h : ∀ x ∈ l, canP x = true ∧ lng x ≠ 0) : prE l = 0 := by
  unfold prE
  rw [if_pos (fun x hx => (h x hx).1), if_pos (fun x hx => (h x hx).2)]
theorem prE_le (l : List Pr) : prE l ≤ 141 := by
  unfold prE
  split
  · split <;> decide
  · decide
/-- What Parse answers, by its three parts. -/
theorem parse_at {X : Nat → Prop} (w : World) (v : Value) (b : List By) (hb : Sl X v b w) (hn : b.length ≤ 1000000000) (l : List Pr) (p e : Nat) (hr : prs b 0 [] = (l, p, e)) :
    Calls Tryd.prog 25 #[v] w fun en V => ∃ a c, en = .returned (.tuple #[.slice a l.length c, .int .i64 (p : Nat), .int .i64 (e : Nat)]) ∧ Hid (Nw w V ∧ SlR RP (fun k => k < w.heap.size) (.slice a l.length c) l V) := by
  obtain ⟨a', c', rfl, _, _⟩ := hb.form
  refine (parse_any w a' b.length c' b hb hn).mono ?_
  rintro en V ⟨u, rfl, H⟩
  rw [hr] at H ⊢
  obtain ⟨h1, og, h2, h3⟩ := H.out
  obtain ⟨a, c, rfl, _, _⟩ := h2.form
  exact ⟨a, c, rfl, h1, (h2.slr rpOk).mono (fun k hk h => by have := h3 k h; omega)⟩
theorem print_at {X : Nat → Prop} (w : World) (hE : Env w) (v : Value) (l : List Pr) (hl : SlR RP X v l w) (hw : wtP l ≤ 100000000) : Calls Tryd.prog 8 #[v] w (PrA w l) := by
  obtain ⟨a, c, rfl, _⟩ := hl.form
  exact print_any w hE a l.length c l hl hw
/-- A copy of bytes, a copy of pairs. -/
theorem copyB (w : World) (v : Value) (b : Bs) (hb : Sl (fun _ => False) v b w) (hn : b.length ≤ 1000000000) : ∃ v' W, Hid (∀ ty, (Builtin.append_ #[24, 24] ty #[.slice (some ⟨w.heap.size, 0, none⟩) 0 0, v]).run Tryd.prog (w.alloc (.cells #[] 5)) = .ok v' W) ∧ Nw w W ∧ Sl (fun _ => False) v' b W := by
  have hN0 : Nw w (w.alloc (.cells #[] 5)) := (Fr.refl _ _).alloc _
  obtain ⟨v', g', W, a1, o1, f1, d1⟩ := app_any _ _ _ [] (Ow.empty w) v b (hb.nw hN0) (by simp; omega)
  exact ⟨v', W, a1, hN0.then f1 (fun i hi => .inr (by omega)), .inr ⟨g', fun h => h, o1.slb⟩⟩
theorem copyP (w : World) (v : Value) (l : List Pr) (hb : SlR RP (fun _ => False) v l w) (hn : l.length ≤ 100000000) : ∃ v' W, Hid (∀ ty, (Builtin.append_ #[22, 22] ty #[.slice (some ⟨w.heap.size, 0, none⟩) 0 0, v]).run Tryd.prog (w.alloc (.cells #[] 47)) = .ok v' W) ∧ Nw w W ∧ SlR RP (fun _ => False) v' l W := by
  have hN0 : Nw w (w.alloc (.cells #[] 47)) := (Fr.refl _ _).alloc _
  obtain ⟨v', g', W, a1, o1, f1, d1⟩ := owR_app rpOk _ _ _ [] (OwR.empty (R := RP) w) v l (hb.nw hN0) (by simp only [RP, List.length_nil]; omega) (by simp; omega)
  exact ⟨v', W, a1, hN0.then f1 (fun i hi => .inr (by omega)), (o1.slr rpOk).anyP⟩
theorem wt_len (l : List Pr) : 12 * l.length ≤ wtP l := by
  induction l with
  | nil => simp [wtP]
  | cons x r ih =>
    unfold wtP at ih ⊢
    rw [List.map_cons, List.sum_cons, List.length_cons]
    omega
set_option maxHeartbeats 16000000 in
set_option maxRecDepth 100000 in
theorem pback_walk (w : World) (hE : Env w) (a : Option Addr) (n c : Nat) (l : List Pr) (hl : SlR RP (fun _ => False) (.slice a n c) l w) (hw : wtP l ≤ 20000000) (a2 : Option Addr) (n2 c2 : Nat) (b : Bs) (hb : Sl (fun _ => False) (.slice a2 n2 c2) b w) (hn2 : n2 ≤ 1048576) :
    Calls Tryd.prog 5 #[.slice a n c, .slice a2 n2 c2] w fun e w' => e = .returned (.bool true) ∧ Nw w w' := by
  obtain ⟨P, hP⟩ : ∃ P : Ending → World → Prop, P = fun e w' => e = .returned (.bool true) ∧ Nw w w' := ⟨_, rfl⟩
  rw [← hP]
  have HF : Hid (∀ V, Nw w V → P (.returned (.bool true)) V) := fun V hV => by rw [hP]; exact ⟨rfl, hV⟩
  clear hP
  obtain ⟨hbn, m1, m2⟩ := sl_len hb
  have HLV := tHid (lives_any w hE)
  have HL := tHid hl
  have HB := tHid hb
  have HENV := tHid hE
  have hll := wt_len l
  -- what comes of the bytes
  have hwt := prs_wt b 0 [] (by omega) (by simp [wtP])
  have her := prs_errno b 0 []
  have hbk : ∀ m, prs b 0 [] = (m, 0, 0) → prE m = 0 ∧ (prt m).length ≤ n2 ∧ n2 ≤ (prt m).length + m.length ∧ ((prt m).length = n2 → prt m = b) := fun m hm => by
    obtain ⟨q, q1, q2, q3, q4, q5⟩ := prs_back b 0 [] m (by omega) hm
    rw [List.nil_append] at q1
    subst q1
    exact ⟨prE_of q2, by omega, by omega, fun h => by rw [q5 (by omega)]; rfl⟩
  have hml : (prs b 0 []).1.length ≤ 1000000 := by have := wt_len (prs b 0 []).1; omega
  obtain ⟨R1, hR1⟩ : ∃ x, (prs b 0 []).1 = x := ⟨_, rfl⟩
  obtain ⟨R2, hR2⟩ : ∃ x, (prs b 0 []).2.1 = x := ⟨_, rfl⟩
  obtain ⟨R3, hR3⟩ : ∃ x, (prs b 0 []).2.2 = x := ⟨_, rfl⟩
  have hR : prs b 0 [] = (R1, R2, R3) := by rw [← hR1, ← hR2, ← hR3]
  rw [hR] at her hwt hbk hml
  simp only at her hwt hml
  obtain ⟨er1, er2, er3, er4⟩ := her
  rw [hbn] at er2 hwt
  have HCB : Hid (∀ V, Nw w V → ∃ v' W, Hid (∀ ty, (Builtin.append_ #[24, 24] ty #[.slice (some ⟨V.heap.size, 0, none⟩) 0 0, .slice a2 n2 c2]).run Tryd.prog (V.alloc (.cells #[] 5)) = .ok v' W) ∧ Hid (Nw w W ∧ Calls Tryd.prog 25 #[v'] W fun en V => ∃ a c, en = .returned (.tuple #[.slice a R1.length c, .int .i64 (R2 : Nat), .int .i64 (R3 : Nat)]) ∧ Hid (Nw W V ∧ SlR RP (fun k => k < W.heap.size) (.slice a R1.length c) R1 V))) := fun V hV => by
    obtain ⟨v', W, k1, k2, k3⟩ := copyB V _ b (hb.nw hV) (by omega)
    exact ⟨v', W, k1, hV.trans k2, parse_at W v' b k3 (by omega) R1 R2 R3 hR⟩
  have HCB2 : Hid (∀ V, Nw w V → (convert 24 9 (.slice a2 n2 c2)).run Tryd.prog V = .ok (.string (str b)) V) := fun V hV => conv_any (hb.nw hV)
  have HBK := tHid hbk
  clear hb hl hE hbk hR hR1 hR2 hR3 hbn
  go_enter Tryd.func5, Tryd.ntmps5
  go_upto_region 3 with (first | (go_at_call 24; with_reducible refine HLV.out.mono ?_; rintro e w1 ⟨rfl, H1⟩; have H1 := tHid H1))
  obtain ⟨v2, W2, HA2, hN2, hS2⟩ := copyP w1 _ l (HL.out.nw H1.out) (by omega)
  have HN2 := tHid (H1.out.trans hN2)
  have HPR := tHid (print_at W2 (HENV.out.nw HN2.out) v2 l hS2 (by omega))
  unfold PrA at HPR
  clear hN2 hS2 HLV
  go_upto_region 4 with (first
    | (at_builtin; refine Lib.wpList_append_run _ rfl _ _ 22 22 rfl (.slice (some ⟨w1.heap.size, 0, none⟩) 0 0) (.slice a n c) (by first | rfl | simp [Act.eval]) (by first | rfl | simp [Act.eval]) _ _ (HA2.out _) ?_)
    | (go_at_call 8; with_reducible refine HPR.out.mono ?_; rintro e w3 ⟨v3, rfl, H3⟩))
  obtain ⟨n3, s3, _⟩ := H3.out
  have HN3 := tHid (HN2.out.trans n3)
  by_cases hp0 : prE l = 0
  · have hs3 := s3 hp0
    have hpp := prs_prt l (prt l) 0 [] rfl (by omega) (prE_zero hp0)
    rw [List.nil_append] at hpp
    have hpl := prt_le l (fun x hx => (prE_zero hp0 x hx).2)
    have HPA := tHid (parse_at w3 v3 (prt l) hs3 (by omega) l 0 0 hpp)
    have HSM : Hid (∀ a' c' V, Nw w3 V → SlR RP (fun k => k < w3.heap.size) (.slice a' l.length c') l V → Calls Tryd.prog 26 #[.slice a' l.length c', .slice a n c] V fun e w' => e = .returned (.bool true) ∧ Nw V w') := fun a' c' V hV hS => by
      have := same_any V _ _ l l hS (HL.out.nw (HN3.out.trans hV))
      rw [decide_eq_true rfl] at this
      exact this
    rw [hp0]
    have HPA0 : Hid (Calls Tryd.prog 25 #[v3] w3 fun en V => ∃ a c, en = .returned (.tuple #[.slice a l.length c, .int .i64 0, .int .i64 0]) ∧ Hid (Nw w3 V ∧ SlR RP (fun k => k < w3.heap.size) (.slice a l.length c) l V)) := HPA
    clear n3 s3 H3 hs3 hpp hpl hp0 HPA HPR HA2
    go_upto_region 8 with (first
      | (go_at_call 25; with_reducible refine HPA0.out.mono ?_; rintro e w4 ⟨a4, c4, rfl, H4⟩)
      | (go_at_call 26; with_reducible refine (HSM.out _ _ _ H4.out.1 H4.out.2).mono ?_; rintro e w5 ⟨rfl, H5⟩; have H5 := tHid H5))
    have HN5 := tHid ((HN3.out.trans H4.out.1).trans H5.out)
    obtain ⟨v6, W6, HA6, HX6⟩ := HCB.out w5 HN5.out
    obtain ⟨n6, c6⟩ := HX6.out
    have HN6 := tHid n6
    have HC6 := tHid c6
    clear n6 c6 HX6 HCB
    by_cases h3 : R3 = 0
    · subst h3
      have h2 := er4 rfl
      subst h2
      obtain ⟨b1, b2, b3, b4⟩ := HBK.out R1 rfl
      have HC60 : Hid (Calls Tryd.prog 25 #[v6] W6 fun en V => ∃ a c, en = .returned (.tuple #[.slice a R1.length c, .int .i64 0, .int .i64 0]) ∧ Hid (Nw W6 V ∧ SlR RP (fun k => k < W6.heap.size) (.slice a R1.length c) R1 V)) := HC6
      have HP7 : Hid (∀ a' c' V, Nw W6 V → SlR RP (fun k => k < W6.heap.size) (.slice a' R1.length c') R1 V → Calls Tryd.prog 8 #[.slice a' R1.length c'] V fun en V2 => ∃ a'' c'', en = .returned (.tuple #[.slice a'' (prt R1).length c'', .int .i64 0]) ∧ Hid (Nw V V2 ∧ (convert 24 9 (.slice a'' (prt R1).length c'')).run Tryd.prog V2 = .ok (.string (str (prt R1))) V2)) := fun a' c' V hV hS => by
        refine (print_at V (HENV.out.nw (HN6.out.trans hV)) _ R1 hS (by omega)).mono ?_
        rintro en V2 ⟨u, rfl, H⟩
        obtain ⟨k1, k2, _⟩ := H.out
        have k3 := k2 b1
        obtain ⟨a'', c'', rfl, _, _⟩ := k3.form
        rw [b1]
        exact ⟨a'', c'', rfl, k1, conv_any k3⟩
      have z1 : ((prt R1).length : Int) ≤ (n2 : Int) := by omega
      have z2 : (n2 : Int) - (R1.length : Int) ≤ ((prt R1).length : Int) := by omega
      go_upto_region 12 with (first
        | (at_builtin; refine Lib.wpList_append_run _ rfl _ _ 24 24 rfl (.slice (some ⟨w5.heap.size, 0, none⟩) 0 0) (.slice a2 n2 c2) (by first | rfl | simp [Act.eval]) (by first | rfl | simp [Act.eval]) _ _ (HA6.out _) ?_)
        | (go_at_call 25; with_reducible refine HC60.out.mono ?_; rintro e w7 ⟨a7, c7, rfl, H7⟩)
        | (go_at_call 8; with_reducible refine (HP7.out _ _ _ H7.out.1 H7.out.2).mono ?_; rintro e w8 ⟨a8, c8, rfl, H8⟩))
      have HF2 := tHid (HF.out w8 ((HN6.out.trans H7.out.1).trans H8.out.1))
      obtain ⟨k1, k2⟩ := H8.out
      have cv2 := HCB2.out w8 ((HN6.out.trans H7.out.1).trans k1)
      clear HF HC6 HC60 HP7 HA6 H7 H8 k1 HCB2 HBK HN5 HN6
      by_cases hlt : (prt R1).length < n2
      · have hlt' : ((prt R1).length : Int) < (n2 : Int) := by omega
        generalize str (prt R1) = s1 at *
        generalize (prt R1).length = L1 at *
        clear b4
        go_wp2_with fail
        first | exact HF2.out | (go_ret; exact HF2.out)
      · have heq := b4 (by omega)
        have hss : str (prt R1) = str b := by rw [heq]
        rw [hss] at k2
        clear hss
        have hlt' : decide (((prt R1).length : Int) < (n2 : Int)) = false := decide_eq_false (by omega)
        have hle : (prt R1).length = n2 := by omega
        clear b4 heq hlt
        generalize str b = s1 at *
        generalize (prt R1).length = L1 at *
        subst hle
        go_wp2_with fail
        first | exact HF2.out | (go_ret; exact HF2.out)
    · have h1 := er3 h3
      subst h1
      have h3i : ¬ ((R3 : Int) = 0) := by omega
      have z1 : (R2 : Int) ≤ (n2 : Int) := by omega
      have HC60 : Hid (Calls Tryd.prog 25 #[v6] W6 fun en V => ∃ a c, en = .returned (.tuple #[.slice a 0 c, .int .i64 (R2 : Nat), .int .i64 (R3 : Nat)]) ∧ Hid (Nw W6 V ∧ SlR RP (fun k => k < W6.heap.size) (.slice a 0 c) [] V)) := HC6
      clear HC6 er1 er3 er4 HBK hwt hml HCB2
      go_wp2_with (first
        | (at_builtin; refine Lib.wpList_append_run _ rfl _ _ 24 24 rfl (.slice (some ⟨w5.heap.size, 0, none⟩) 0 0) (.slice a2 n2 c2) (by first | rfl | simp [Act.eval]) (by first | rfl | simp [Act.eval]) _ _ (HA6.out _) ?_)
        | (go_at_call 25; with_reducible refine HC60.out.mono ?_; rintro e w7 ⟨a7, c7, rfl, H7⟩))
      first | exact HF.out _ (HN6.out.trans H7.out.1) | (go_ret; exact HF.out _ (HN6.out.trans H7.out.1))
  · have hp1 := prE_le l
    have hp0i : ¬ ((prE l : Nat) : Int) = 0 := by omega
    obtain ⟨w5, hw5⟩ : ∃ w5, w3 = w5 := ⟨_, rfl⟩
    have hw5' := hw5.symm
    subst hw5'
    clear hw5
    have HN5 := tHid HN3.out
    generalize prE l = PE at *
    clear n3 s3 H3 HPR HA2
    go_upto_region 8 with fail
    obtain ⟨v6, W6, HA6, HX6⟩ := HCB.out w5 HN5.out
    obtain ⟨n6, c6⟩ := HX6.out
    have HN6 := tHid n6
    have HC6 := tHid c6
    clear n6 c6 HX6 HCB
    by_cases h3 : R3 = 0
    · subst h3
      have h2 := er4 rfl
      subst h2
      obtain ⟨b1, b2, b3, b4⟩ := HBK.out R1 rfl
      have HC60 : Hid (Calls Tryd.prog 25 #[v6] W6 fun en V => ∃ a c, en = .returned (.tuple #[.slice a R1.length c, .int .i64 0, .int .i64 0]) ∧ Hid (Nw W6 V ∧ SlR RP (fun k => k < W6.heap.size) (.slice a R1.length c) R1 V)) := HC6
      have HP7 : Hid (∀ a' c' V, Nw W6 V → SlR RP (fun k => k < W6.heap.size) (.slice a' R1.length c') R1 V → Calls Tryd.prog 8 #[.slice a' R1.length c'] V fun en V2 => ∃ a'' c'', en = .returned (.tuple #[.slice a'' (prt R1).length c'', .int .i64 0]) ∧ Hid (Nw V V2 ∧ (convert 24 9 (.slice a'' (prt R1).length c'')).run Tryd.prog V2 = .ok (.string (str (prt R1))) V2)) := fun a' c' V hV hS => by
        refine (print_at V (HENV.out.nw (HN6.out.trans hV)) _ R1 hS (by omega)).mono ?_
        rintro en V2 ⟨u, rfl, H⟩
        obtain ⟨k1, k2, _⟩ := H.out
        have k3 := k2 b1
        obtain ⟨a'', c'', rfl, _, _⟩ := k3.form
        rw [b1]
        exact ⟨a'', c'', rfl, k1, conv_any k3⟩
      have z1 : ((prt R1).length : Int) ≤ (n2 : Int) := by omega
      have z2 : (n2 : Int) - (R1.length : Int) ≤ ((prt R1).length : Int) := by omega
      go_upto_region 12 with (first
        | (at_builtin; refine Lib.wpList_append_run _ rfl _ _ 24 24 rfl (.slice (some ⟨w5.heap.size, 0, none⟩) 0 0) (.slice a2 n2 c2) (by first | rfl | simp [Act.eval]) (by first | rfl | simp [Act.eval]) _ _ (HA6.out _) ?_)
        | (go_at_call 25; with_reducible refine HC60.out.mono ?_; rintro e w7 ⟨a7, c7, rfl, H7⟩)
        | (go_at_call 8; with_reducible refine (HP7.out _ _ _ H7.out.1 H7.out.2).mono ?_; rintro e w8 ⟨a8, c8, rfl, H8⟩))
      have HF2 := tHid (HF.out w8 ((HN6.out.trans H7.out.1).trans H8.out.1))
      obtain ⟨k1, k2⟩ := H8.out
      have cv2 := HCB2.out w8 ((HN6.out.trans H7.out.1).trans k1)
      clear HF HC6 HC60 HP7 HA6 H7 H8 k1 HCB2 HBK HN5 HN6
      by_cases hlt : (prt R1).length < n2
      · have hlt' : ((prt R1).length : Int) < (n2 : Int) := by omega
        generalize str (prt R1) = s1 at *
        generalize (prt R1).length = L1 at *
        clear b4
        go_wp2_with fail
        first | exact HF2.out | (go_ret; exact HF2.out)
      · have heq := b4 (by omega)
        have hss : str (prt R1) = str b := by rw [heq]
        rw [hss] at k2
        clear hss
        have hlt' : decide (((prt R1).length : Int) < (n2 : Int)) = false := decide_eq_false (by omega)
        have hle : (prt R1).length = n2 := by omega
        clear b4 heq hlt
        generalize str b = s1 at *
        generalize (prt R1).length = L1 at *
        subst hle
        go_wp2_with fail
        first | exact HF2.out | (go_ret; exact HF2.out)
    · have h1 := er3 h3
      subst h1
      have h3i : ¬ ((R3 : Int) = 0) := by omega
      have z1 : (R2 : Int) ≤ (n2 : Int) := by omega
      have HC60 : Hid (Calls Tryd.prog 25 #[v6] W6 fun en V => ∃ a c, en = .returned (.tuple #[.slice a 0 c, .int .i64 (R2 : Nat), .int .i64 (R3 : Nat)]) ∧ Hid (Nw W6 V ∧ SlR RP (fun k => k < W6.heap.size) (.slice a 0 c) [] V)) := HC6
      clear HC6 er1 er3 er4 HBK hwt hml HCB2
      go_wp2_with (first
        | (at_builtin; refine Lib.wpList_append_run _ rfl _ _ 24 24 rfl (.slice (some ⟨w5.heap.size, 0, none⟩) 0 0) (.slice a2 n2 c2) (by first | rfl | simp [Act.eval]) (by first | rfl | simp [Act.eval]) _ _ (HA6.out _) ?_)
        | (go_at_call 25; with_reducible refine HC60.out.mono ?_; rintro e w7 ⟨a7, c7, rfl, H7⟩))
      first | exact HF.out _ (HN6.out.trans H7.out.1) | (go_ret; exact HF.out _ (HN6.out.trans H7.out.1))
end Go.Proofs.YtenkchhlaphocaaDoor
