import Derived.Test.YtpjnbhflnbhnoaaGreatDoorWbg
namespace Go.Proofs.YtpjnbhflnbhnoaaGreatDoor
open Go.RowKit
set_option linter.unusedVariables false
variable {sb rb : Nat} {K : Nat → Prop} {rv : Value} {v : Value} {b : List By} {p : Nat} {skip left : Int} {most told : Nat} {m : Mm} {s : Sx} {w : World}
set_option maxHeartbeats 32000000 in
set_option maxRecDepth 100000 in
open Classical in
theorem ownCodes_any (h : StI sb rb K v b p skip left most told m s w) (hl : m.l = s.lst) (hT : Tab w) (h0 : rb ≠ 5) :
    Calls Tryz.prog 185 #[.pointer (some ⟨sb, 0, none⟩)] w (Owd sb rb K v b skip left most told m s w (ownR (bt b p))) := by
  obtain ⟨P, hP⟩ : ∃ P : Ending → World → Prop, P = Owd sb rb K v b skip left most told m s w (ownR (bt b p)) := ⟨_, rfl⟩
  rw [← hP]
  have BAD : Hid (∀ y W, ownR (bt b p) = .bad y → SmI sb K (.pointer (some ⟨rb, 0, none⟩)) skip left most told m s W → Fr (fun k => ¬ K k) w W → P (gv y) W) := fun y W h1 h2 h3 => by
    rw [hP]; exact .inl ⟨y, h1, rfl, h2, h3⟩
  have OK : Hid (∀ la lb p' m' K' r W, ownR (bt b p) = .ok ((la, lb), bt b p') → StI sb rb K' v b p' skip left most told m' { s with md := 2, la := la, lb := lb } W → (∀ k, K k → K' k) → (∀ k, K' k → K k ∨ w.heap.size ≤ k) → Fr (fun k => ¬ K k) w W → P (.returned r) W) := fun la lb p' m' K' r W h1 h2 h3 h4 h5 => by
    rw [hP]; exact .inr ⟨la, lb, p', m', K', r, h1, rfl, h2, h3, h4, h5⟩
  have HT : Hid (∀ W, Fr (fun k => ¬ K k) w W → StI sb rb K v b p skip left most told m s w → True) := fun _ _ _ => trivial
  have HTB : Hid (Tab w ∧ rb ≠ 5) := ⟨hT, h0⟩
  have HG : Hid (∀ V, Calls Tryz.prog 186 #[.int .i64 62] V fun e w' => e = gv 62 ∧ V = w') := fun V => (giveUp_any 62 V).mono (fun e w' ⟨a1, a2⟩ => ⟨a1, a2.symm⟩)
  have HR : ∀ {n p' : Nat} {W : World}, StI sb rb K v b p' skip left most told m s W → n ≤ 32 → Calls Tryz.prog 182 #[.pointer (some ⟨sb, 0, none⟩), .int .i64 n] W (Ri sb rb (fun k => ¬ K k) v b W (takeR n (bt b p'))) := fun hh hn => jnumber_any hh.lt _ hn _ rfl
  have H : Hid (StI sb rb K v b p skip left most told m s w) := h
  have HN0 : Hid (Calls Tryz.prog 182 #[.pointer (some ⟨sb, 0, none⟩), .int .i64 5] w (Ri sb rb (fun k => ¬ K k) v b w (takeR 5 (bt b p)))) := HR h (by decide)
  clear hP h hT h0 HR HT
  go_enter Tryz.func185, Tryz.ntmps185
  go_wp2_with fail
  go_at_call 182
  with_reducible refine HN0.out.mono ?_
  unfold Ri
  rintro e w0 (⟨y, h1, rfl, h3⟩ | ⟨a, p0, h1, rfl, h3, h4⟩)
  · exact ⟨rfl, BAD.out y w0 (by rw [ownR_eq]; exact bindR_bad h1) (H.out.smr h3) (H.out.frr h3)⟩
  have ha := takeR_lt h1
  have ha' : a < 32 := ha
  have H1 : Hid (StI sb rb K v b p0 skip left most told m s w0 ∧ Fr (fun k => k = rb) w w0 ∧ takeR 5 (bt b p) = .ok (a, bt b p0)) := ⟨H.out.go h3 h4, h4, h1⟩
  have HN1 : Hid (Calls Tryz.prog 182 #[.pointer (some ⟨sb, 0, none⟩), .int .i64 5] w0 (Ri sb rb (fun k => ¬ K k) v b w0 (takeR 5 (bt b p0)))) := jnumber_any h3 5 (by decide) 5 rfl
  clear h1 h3 h4 ha HN0
  go_wp2_with fail
  go_at_call 182
  with_reducible refine HN1.out.mono ?_
  unfold Ri
  rintro e w1 (⟨y, h1, rfl, h3⟩ | ⟨d, p1, h1, rfl, h3, h4⟩)
  · exact ⟨rfl, BAD.out y w1 (by rw [ownR_eq, bindR_eq H1.out.2.2]; exact bindR_bad h1) (H1.out.1.smr h3) (H.out.frr (H1.out.2.1.trans h3))⟩
  have hd := takeR_lt h1
  have hd' : d < 32 := hd
  have H2 : Hid (StI sb rb K v b p1 skip left most told m s w1 ∧ Fr (fun k => k = rb) w w1 ∧ takeR 5 (bt b p0) = .ok (d, bt b p1)) := ⟨H1.out.1.go h3 h4, H1.out.2.1.trans h4, h1⟩
  have HN2 : Hid (Calls Tryz.prog 182 #[.pointer (some ⟨sb, 0, none⟩), .int .i64 4] w1 (Ri sb rb (fun k => ¬ K k) v b w1 (takeR 4 (bt b p1)))) := jnumber_any h3 4 (by decide) 4 rfl
  clear h1 h3 h4 hd HN1
  go_wp2_with fail
  go_at_call 182
  with_reducible refine HN2.out.mono ?_
  unfold Ri
  rintro e w2 (⟨y, h1, rfl, h3⟩ | ⟨n, p2, h1, rfl, h3, h4⟩)
  · exact ⟨rfl, BAD.out y w2 (by rw [ownR_eq, bindR_eq H1.out.2.2, bindR_eq H2.out.2.2]; exact bindR_bad h1) (H2.out.1.smr h3) (H.out.frr (H2.out.2.1.trans h3))⟩
  have hn := takeR_lt h1
  have hn' : n < 16 := hn
  obtain ⟨A, hA⟩ : ∃ A, A = a + 257 := ⟨_, rfl⟩
  obtain ⟨D, hD⟩ : ∃ D, D = d + 1 := ⟨_, rfl⟩
  obtain ⟨n4, hn4⟩ : ∃ n4, n4 = n + 4 := ⟨_, rfl⟩
  have H3 : Hid (StI sb rb K v b p2 skip left most told m s w2 ∧ Fr (fun k => k = rb) w w2 ∧ ownR (bt b p) = (if 286 < A ∨ 30 < D then failR 62 else
    bindR (smallR 0 n4 (List.replicate 19 0)) fun sm => if ¬ (Cod sm ∧ room sm = 32768) then failR 62 else
    bindR (lensR sm (A + D) (A + D) []) fun l =>
    if l.getD 256 0 ≠ 0 ∧ Good (l.take A) ∧ (sumL (l.drop A) = 0 ∨ Good (l.drop A)) then retR (l.take A, l.drop A) else failR 62) (bt b p2)) := ⟨H2.out.1.go h3 h4, H2.out.2.1.trans h4, by rw [ownR_eq, bindR_eq H1.out.2.2, bindR_eq H2.out.2.2, bindR_eq h1, hA, hD, hn4]⟩
  have zA : (a : Int) + 257 = (A : Int) := by omega
  have zD : (d : Int) + 1 = (D : Int) := by omega
  have zn : (n : Int) + 4 = (n4 : Int) := by omega
  have bA : A ≤ 288 := by omega
  have bA2 : 257 ≤ A := by omega
  have bD : D ≤ 32 := by omega
  have bD2 : 1 ≤ D := by omega
  have bn : n4 ≤ 19 := by omega
  clear h1 h3 h4 hn HN2 H1 H2 hA hD hn4
  by_cases hb1 : 286 < A
  · have HF : Hid (P (gv 62) w2) := BAD.out 62 w2 (by rw [H3.out.2.2, if_pos (.inl hb1)]; rfl) H3.out.1.sm (H.out.frr H3.out.2.1)
    have hz : (286 : Int) < (A : Int) := by omega
    clear BAD OK H3
    go_wp2_with (first | (go_at_call 186; (with_reducible refine (HG.out _).mono ?_); rintro e w4 ⟨rfl, rfl⟩))
    exact ⟨rfl, HF.out⟩
  have hz : ¬ (286 : Int) < (A : Int) := by omega
  by_cases hb2 : 30 < D
  · have HF : Hid (P (gv 62) w2) := BAD.out 62 w2 (by rw [H3.out.2.2, if_pos (.inr hb2)]; rfl) H3.out.1.sm (H.out.frr H3.out.2.1)
    have hz2 : (30 : Int) < (D : Int) := by omega
    clear BAD OK H3
    go_wp2_with (first | (go_at_call 186; (with_reducible refine (HG.out _).mono ?_); rintro e w4 ⟨rfl, rfl⟩))
    exact ⟨rfl, HF.out⟩
  have hz2 : ¬ (30 : Int) < (D : Int) := by omega
  have HM : Hid (ownR (bt b p) = (bindR (smallR 0 n4 (List.replicate 19 0)) fun sm => if ¬ (Cod sm ∧ room sm = 32768) then failR 62 else
    bindR (lensR sm (A + D) (A + D) []) fun l =>
    if l.getD 256 0 ≠ 0 ∧ Good (l.take A) ∧ (sumL (l.drop A) = 0 ∨ Good (l.drop A)) then retR (l.take A, l.drop A) else failR 62) (bt b p2)) := by
    show _ = _
    rw [H3.out.2.2, if_neg (by omega)]
  have HLC : Hid (Calls Tryz.prog 204 #[.pointer (some ⟨sb, 0, none⟩), .int .i64 n4] w2 (Lcd sb rb K v b w2 n4 (smallR 0 n4 (List.replicate 19 0) (bt b p2)))) := lengthsCode_any H3.out.1.lt H3.out.1.sm.lt (HTB.out.1.kept H3.out.2.1 (fun e => HTB.out.2 e.symm)) HTB.out.2 n4 bn
  go_wp2_with fail
  go_at_call 204
  with_reducible refine HLC.out.mono ?_
  unfold Lcd
  rintro e w3 (⟨y, rfl, h2, h3⟩ | ⟨sm, p3, cb, gw, gs, ws, ss, h1, rfl, h2, h3, h4, h5, h6, h7, h8, h9, h10⟩)
  · refine ⟨rfl, BAD.out y w3 ?_ (H3.out.1.smr h3) (H.out.frr (H3.out.2.1.trans h3))⟩
    rw [HM.out]
    rcases h2 with h2 | ⟨sm, t, h2, h4, h5⟩
    · exact bindR_bad h2
    · rw [bindR_eq h2, if_pos h4, h5]; rfl
  have HM2 : Hid (ownR (bt b p) = (bindR (lensR sm (A + D) (A + D) []) fun l =>
    if l.getD 256 0 ≠ 0 ∧ Good (l.take A) ∧ (sumL (l.drop A) = 0 ∨ Good (l.drop A)) then retR (l.take A, l.drop A) else failR 62) (bt b p3)) := by
    show _ = _
    rw [HM.out, bindR_eq h1, if_neg (fun hh => hh ⟨h3, h4⟩)]
  have hsz3 := h10.size
  have hrl := H3.out.1.rr.lt
  have HLN : Hid (Calls Tryz.prog 203 #[.pointer (some ⟨sb, 0, none⟩), .pointer (some ⟨cb, 0, none⟩), .int .i64 (A + D : Nat)] w3 (Lnd sb rb K v b w3 (lensR sm (A + D) (A + D) [] (bt b p3)))) := lengths_any (C := fun k => w2.heap.size ≤ k) h9 (fun k hk => Nat.lt_of_lt_of_le (H3.out.1.sm.lt k hk) hsz3) (.inr ⟨cb, gw, gs, ws, ss, rfl, h2, h3, h6, h7, h8⟩) (by omega) (by omega) (by omega) (by omega)
  have H4 : Hid (StI sb rb K v b p3 skip left most told m s w3 ∧ Fr (fun k => k = rb) w w3) := ⟨H3.out.1.go h9 h10, H3.out.2.1.trans h10⟩
  obtain ⟨N, hN⟩ : ∃ N, N = A + D := ⟨_, rfl⟩
  rw [← hN] at HLN HM2
  have zN : (A : Int) + (D : Int) = (N : Int) := by omega
  have bN : N ≤ 320 := by omega
  have bN2 : A < N := by omega
  clear h1 h2 h3 h4 h5 h6 h7 h8 h9 h10 hsz3 hrl H3 HM HLC hN hb1 hb2 HTB
  go_wp2_with fail
  go_at_call 203
  with_reducible refine HLN.out.mono ?_
  unfold Lnd
  rintro e w4 (⟨y, h1, rfl, h3⟩ | ⟨l, p4, g, c, h1, rfl, h2, h3, h4, h5, h6⟩)
  · exact ⟨rfl, BAD.out y w4 (by rw [HM2.out]; exact bindR_bad h1) (H4.out.1.smr h3) (H.out.frr (H4.out.2.trans h3))⟩
  have hll : l.length = N := lensR_len N [] l _ _ h1 (by simp)
  obtain ⟨c', ec, hcl, hc2⟩ := h2.form
  injection ec with _ _ ec
  subst ec
  rw [toI_length] at hcl
  have HO : Hid (OwI sb rb K v b p4 skip left most told m s w l g c w4) := ⟨H4.out.1.go h5 h6, H.out.frr (H4.out.2.trans h6), h2, h4, hcl, hc2⟩
  have HM3 : Hid (ownR (bt b p) = (if l.getD 256 0 ≠ 0 ∧ Good (l.take A) ∧ (sumL (l.drop A) = 0 ∨ Good (l.drop A)) then retR (l.take A, l.drop A) else failR 62) (bt b p4)) := by
    show _ = _
    rw [HM2.out, bindR_eq h1]
  have hx256 : w4.cell? ⟨g, 256, none⟩ = some (.int .i64 (l.getD 256 0 : Nat)) := by
    have := (h2.cell riOk 256 0 _ _ (toI_at l 256 (by omega)) rfl).1
    exact this
  rw [hll] at hcl ⊢
  have hsz4 := HO.out.fr.size
  clear h1 h2 h3 h4 h5 h6 H4 HM2 HLN
  have hx15 : l.getD 256 0 ≤ 15 := HO.out.each 256
  have z256 : (256 : Int) < (N : Int) := by omega
  by_cases h256 : l.getD 256 0 = 0
  · have HF : Hid (P (gv 62) w4) := BAD.out 62 w4 (by rw [HM3.out, if_neg (fun hh => hh.1 h256)]; rfl) HO.out.st.sm HO.out.fr
    have hzz : (((l.getD 256 0 : Nat) : Int) == 0) = true := by rw [h256]; rfl
    clear BAD OK HO HM3 h256 hll
    generalize l.getD 256 0 = x256 at *
    go_wp2_with (first | (go_at_call 186; (with_reducible refine (HG.out _).mono ?_); rintro e w6 ⟨rfl, rfl⟩))
    exact ⟨rfl, HF.out⟩
  have hzz : (((l.getD 256 0 : Nat) : Int) == 0) = false := by
    simp only [beq_eq_false_iff_ne, ne_eq]; omega
  have hsl1 : SlR RI (fun k => w4.heap.size ≤ k) (.slice (some ⟨g, 0, none⟩) A c) (toI (l.take A)) w4 := by
    have := HO.out.ow.part 0 A (by omega) c (by omega) hc2
    rw [List.drop_zero] at this
    exact this
  have hea : ∀ i, (l.take A).getD i 0 ≤ 15 := fun i => by
    have := getD_sub l 15 0 A HO.out.each i
    rw [List.drop_zero] at this
    exact this
  have hla : (l.take A).length ≤ 320 := by rw [List.length_take]; omega
  have hco := codeOf_any w4 _ (l.take A) hsl1 hea hla
  have zAc : (A : Int) ≤ (c : Int) := by omega
  have zA0 : (0 : Int) ≤ (A : Int) := by omega
  have hcA : ¬ c = A := by omega
  by_cases hga : ¬ Good (l.take A)
  · have HC : Hid (Calls Tryz.prog 205 #[.slice (some ⟨g, 0, none⟩) A c] w4 fun e w5 => e = gv 62 ∧ Hid (P (gv 62) w5)) := (hco.2 hga).mono (fun e w5 ⟨a1, a2⟩ => ⟨a1, BAD.out 62 w5 (by rw [HM3.out, if_neg (fun hh => hga hh.2.1)]; rfl) (HO.out.nw a2).st.sm (HO.out.nw a2).fr⟩)
    clear BAD OK HO HM3 hco hsl1 hga h256 hea hla hll
    generalize l.getD 256 0 = x256 at *
    go_wp2_with (first | (go_at_call 205; (with_reducible refine HC.out.mono ?_); rintro e w5 ⟨rfl, HF⟩))
    exact ⟨rfl, HF.out⟩
  have hga := Classical.not_not.1 hga
  have HCA : Hid (Calls Tryz.prog 205 #[.slice (some ⟨g, 0, none⟩) A c] w4 fun e w5 => ∃ ca, e = .returned (.pointer (some ⟨ca, 0, none⟩)) ∧ Hid (∃ ga sa wa ya, CodeI ca ga sa (l.take A) wa ya w5 ∧ Nw w4 w5 ∧ w4.heap.size ≤ ca ∧ w4.heap.size ≤ ga ∧ w4.heap.size ≤ sa)) := (hco.1 hga).mono (fun e w5 ⟨ca, ga, sa, wa, ya, a1, a2, a3, a4, a5, a6⟩ => ⟨ca, a1, ga, sa, wa, ya, a2, a3, a4, a5, a6⟩)
  have HGA : Hid (l.getD 256 0 ≠ 0 ∧ Good (l.take A)) := ⟨h256, hga⟩
  have HLL : Hid (l.length = N) := hll
  clear hco hsl1 h256 hea hla hll
  have HX : Hid (∀ x, x = l.getD 256 0 → True) := fun _ _ => trivial
  generalize hx9 : l.getD 256 0 = x256 at hzz hx256 hx15
  clear hx9 HX
  go_upto_region 7 with (first | (go_at_call 205; (with_reducible refine HCA.out.mono ?_); rintro e w5 ⟨ca, rfl, H5⟩))
  obtain ⟨w6, hw6⟩ : ∃ w6, w5.alloc (.cells #[.pointer (some ⟨ca, 0, none⟩), .pointer none, .bool false] 91) = w6 := ⟨_, rfl⟩
  rw [hw6]
  obtain ⟨ob, hob⟩ : ∃ ob, ob = w5.heap.size := ⟨_, rfl⟩
  rw [← hob]
  obtain ⟨ga, sa, wa, ya, k1, k2, k3, k4, k5⟩ := H5.out
  have hN56 : Nw w5 w6 := by rw [← hw6]; exact (Fr.refl _ _).alloc _
  have hrow6 : w6.heap[ob]? = some (.cells #[.pointer (some ⟨ca, 0, none⟩), .pointer none, .bool false] 91) := by rw [← hw6, hob]; exact new_heap _ _
  have hN46 : Nw w4 w6 := k2.trans hN56
  have O6 : OwI sb rb K v b p4 skip left most told m s w l g c w6 := HO.out.nw hN46
  have hsz5 := k2.size
  have hCA6 := k1.nw hN56
  have hsl2 : SlR RI (fun k => w6.heap.size ≤ k) (.slice (some ⟨g, A, none⟩) (N - A) (c - A)) (toI (l.drop A)) w6 := by
    have := O6.ow.part A (N - A) (by have := HLL.out; omega) (c - A) (by omega) (by omega)
    rw [List.take_of_length_le (by rw [List.length_drop, HLL.out]; omega)] at this
    exact this
  have heb : ∀ i, (l.drop A).getD i 0 ≤ 15 := fun i => by
    have := getD_sub l 15 A l.length O6.each i
    rw [List.take_of_length_le (by rw [List.length_drop]; omega)] at this
    exact this
  have hlb : (l.drop A).length = N - A := by rw [List.length_drop, HLL.out]
  have HMX : Hid (Calls Tryz.prog 206 #[.slice (some ⟨g, A, none⟩) (N - A) (c - A)] w6 fun e V => ∃ M : Nat, e = .returned (.int .i64 M) ∧ M ≤ 15 ∧ Hid (M = 0 ↔ sumL (l.drop A) = 0) ∧ w6 = V) := (maxI_any w6 _ (l.drop A) (hsl2.mono (fun _ h => h.elim)) heb (by omega) (by omega)).mono (fun e V ⟨⟨M, a1, a2, a3⟩, a4⟩ => ⟨M, a1, a2, a3, a4.symm⟩)
  have hco2 := codeOf_any w6 _ (l.drop A) hsl2 heb (by omega)
  obtain ⟨l1, l2, l3⟩ := hCA6.c.lt
  have hST := O6.st
  -- the codes are put in
  have FIN : Hid (∀ V u1 lb' r, Nw w4 V → w6.heap.size ≤ V.heap.size → CodeI ca ga sa (l.take A) wa ya V → CodV (fun k => w4.heap.size ≤ k ∧ k < V.heap.size) (.pointer u1) lb' V → lb' = l.drop A → (sumL (l.drop A) = 0 ∨ Good (l.drop A)) → P (.returned r) ((((V.setCell ⟨sb, 10, none⟩ (.pointer (some ⟨ca, 0, none⟩))).setCell ⟨sb, 11, none⟩ (.pointer u1)).setCell ⟨sb, 12, none⟩ (.bool false)).setCell ⟨sb, 7, none⟩ (.int .i64 2))) := by
    intro V u1 lb' r h4V hsV hCV hcv hlb' hgd
    subst hlb'
    have hk := HO.out.st.fresh (HO.out.nw h4V).st h4V.size
    obtain ⟨z1, z2⟩ := hk.codes (u0 := some ⟨ca, 0, none⟩) (u1 := u1) (f := false) (la := l.take A) (lb := l.drop A) hl (.inr ⟨ca, ga, sa, wa, ya, rfl, hCV, HGA.out.2.1, .inr ⟨k3, by omega⟩, .inr ⟨k4, by omega⟩, .inr ⟨k5, by omega⟩⟩) (hcv.mono (fun k hk => .inr hk)) (fun e => by cases e)
    refine OK.out _ _ p4 _ _ r _ (by rw [HM3.out, if_pos ⟨HGA.out.1, HGA.out.2, hgd⟩]; rfl) z1 (fun k hk => .inl hk) (fun k hk => ?_) ((HO.out.nw h4V).fr.trans (z2.mono (fun i hi => .inl (by rw [hi]; exact hST.sm.ks))))
    rcases hk with e | e
    · exact .inl e
    · exact .inr (by omega)
  have CEL : Hid (∀ V u1, Nw w6 V ∨ Fr (fun k => k = ob) w6 V → V.cell? ⟨sb, 10, none⟩ = some m.us ∧ V.frozen? ⟨sb, 10, none⟩ = false ∧ (V.setCell ⟨sb, 10, none⟩ (.pointer (some ⟨ca, 0, none⟩))).cell? ⟨sb, 11, none⟩ = some m.ud ∧ (V.setCell ⟨sb, 10, none⟩ (.pointer (some ⟨ca, 0, none⟩))).frozen? ⟨sb, 11, none⟩ = false ∧ ((V.setCell ⟨sb, 10, none⟩ (.pointer (some ⟨ca, 0, none⟩))).setCell ⟨sb, 11, none⟩ (.pointer u1)).cell? ⟨sb, 12, none⟩ = some (.bool m.fx) ∧ ((V.setCell ⟨sb, 10, none⟩ (.pointer (some ⟨ca, 0, none⟩))).setCell ⟨sb, 11, none⟩ (.pointer u1)).frozen? ⟨sb, 12, none⟩ = false ∧ (((V.setCell ⟨sb, 10, none⟩ (.pointer (some ⟨ca, 0, none⟩))).setCell ⟨sb, 11, none⟩ (.pointer u1)).setCell ⟨sb, 12, none⟩ (.bool false)).cell? ⟨sb, 7, none⟩ = some (.int .i64 s.md) ∧ (((V.setCell ⟨sb, 10, none⟩ (.pointer (some ⟨ca, 0, none⟩))).setCell ⟨sb, 11, none⟩ (.pointer u1)).setCell ⟨sb, 12, none⟩ (.bool false)).frozen? ⟨sb, 7, none⟩ = false) := by
    intro V u1 hV
    have hsl := HO.out.st.sm.lts
    have hr : V.heap[sb]? = some (.cells (srow (.pointer (some ⟨rb, 0, none⟩)) skip left most m s) 93) := by
      rcases hV with hV | hV
      · exact hV.heap hST.sm.row
      · exact row_kept hST.sm.row hV (fun e => by omega)
    exact codes_cells (.pointer (some ⟨ca, 0, none⟩)) (.pointer u1) (.bool false) hr rfl rfl rfl rfl
  have HCO : Hid ((Good (l.drop A) → Calls Tryz.prog 205 #[.slice (some ⟨g, A, none⟩) (N - A) (c - A)] w6 (Cdd (l.drop A) w6)) ∧ (¬ Good (l.drop A) → Calls Tryz.prog 205 #[.slice (some ⟨g, A, none⟩) (N - A) (c - A)] w6 fun e w' => e = gv 62 ∧ Nw w6 w')) := hco2
  have HRW : Hid (w6.heap[ob]? = some (.cells #[.pointer (some ⟨ca, 0, none⟩), .pointer none, .bool false] 91)) := hrow6
  have H6 : Hid (Nw w4 w6 ∧ OwI sb rb K v b p4 skip left most told m s w l g c w6 ∧ CodeI ca ga sa (l.take A) wa ya w6 ∧ ca < ob ∧ ga < ob ∧ sa < ob ∧ w4.heap.size ≤ ob) := by
    obtain ⟨q1, q2, q3⟩ := k1.c.lt
    exact ⟨hN46, O6, hCA6, by omega, by omega, by omega, by omega⟩
  have szt : (Tryz.prog.info? 91).map (·.size) = some 3 := by kernel_rfl
  have zsub : (N : Int) - (A : Int) = ((N - A : Nat) : Int) := by omega
  clear hco2 hrow6 hST hCA6 O6 hN46 hN56 hsl2 heb hlb l1 l2 l3 k1 k2 k3 k4 k5 H5 HCA hob hw6
  go_wp2_with fail
  go_at_call 206
  with_reducible refine HMX.out.mono ?_
  rintro e w6' ⟨M, rfl, hM, HMI, rfl⟩
  by_cases hM0 : M = 0
  · have hs0 : sumL (l.drop A) = 0 := HMI.out.1 hM0
    have HF : Hid (∀ r, P (.returned r) ((((w6.setCell ⟨sb, 10, none⟩ (.pointer (some ⟨ca, 0, none⟩))).setCell ⟨sb, 11, none⟩ (.pointer none)).setCell ⟨sb, 12, none⟩ (.bool false)).setCell ⟨sb, 7, none⟩ (.int .i64 2))) := fun r => FIN.out w6 none _ r H6.out.1 (Nat.le_refl _) H6.out.2.2.1 (.inl ⟨rfl, hs0⟩) rfl (.inl hs0)
    have hzM : ¬ (0 : Int) < (M : Int) := by omega
    obtain ⟨y1, y2, y3, y4, y5, y6, y7, y8⟩ := CEL.out w6 none (.inl (Fr.refl _ _))
    have hr := HRW.out
    clear BAD OK HO HM3 HMX HMI FIN CEL HCO H6 HGA HLL HRW
    go_wp2_with (first | (refine wpList_load_row rfl 91 _ rfl ob (by first | rfl | simp [Act.eval]) 91 #[.pointer (some ⟨ca, 0, none⟩), .pointer none, .bool false] (0, 0) _ hr Tryz.underlying91 rfl szt ?_))
    go_end0
    exact HF.out _
  · have hs0 : sumL (l.drop A) ≠ 0 := fun e => hM0 (HMI.out.2 e)
    have hzM : (0 : Int) < (M : Int) := by omega
    by_cases hgb : ¬ Good (l.drop A)
    · have HC : Hid (Calls Tryz.prog 205 #[.slice (some ⟨g, A, none⟩) (N - A) (c - A)] w6 fun e w7 => e = gv 62 ∧ Hid (P (gv 62) w7)) := (HCO.out.2 hgb).mono (fun e w7 ⟨a1, a2⟩ => ⟨a1, BAD.out 62 w7 (by rw [HM3.out, if_neg (fun hh => by rcases hh.2.2 with e | e; exact hs0 e; exact hgb e)]; rfl) (H6.out.2.1.nw a2).st.sm (H6.out.2.1.nw a2).fr⟩)
      clear BAD OK HO HM3 HMX HMI FIN CEL HCO H6 HGA HLL HRW hgb hs0
      go_wp2_with (first | (go_at_call 205; (with_reducible refine HC.out.mono ?_); rintro e w7 ⟨rfl, HF⟩))
      exact ⟨rfl, HF.out⟩
    have hgb := Classical.not_not.1 hgb
    have HC : Hid (Calls Tryz.prog 205 #[.slice (some ⟨g, A, none⟩) (N - A) (c - A)] w6 fun e w7 => ∃ cb2, e = .returned (.pointer (some ⟨cb2, 0, none⟩)) ∧ w7.cell? ⟨ob, 1, none⟩ = some (.pointer none) ∧ w7.frozen? ⟨ob, 1, none⟩ = false ∧ ∃ w8, w7.setCell ⟨ob, 1, none⟩ (.pointer (some ⟨cb2, 0, none⟩)) = w8 ∧ w8.heap[ob]? = some (.cells #[.pointer (some ⟨ca, 0, none⟩), .pointer (some ⟨cb2, 0, none⟩), .bool false] 91) ∧ Hid (Fr (fun k => k = ob) w6 w8) ∧ Hid (∀ r, P (.returned r) ((((w8.setCell ⟨sb, 10, none⟩ (.pointer (some ⟨ca, 0, none⟩))).setCell ⟨sb, 11, none⟩ (.pointer (some ⟨cb2, 0, none⟩))).setCell ⟨sb, 12, none⟩ (.bool false)).setCell ⟨sb, 7, none⟩ (.int .i64 2)))) := (HCO.out.1 hgb).mono (by
      rintro e w7 ⟨cb2, gb2, sb2, wb2, yb2, a1, a2, a3, a4, a5, a6⟩
      obtain ⟨q1, q2, q3, q4, q5, q6, q7⟩ := H6.out
      have hr7 := a3.heap HRW.out
      have hob6 := (Array.getElem?_eq_some_iff.1 HRW.out).1
      have f8 : Fr (fun k => k = ob) w7 (w7.setCell ⟨ob, 1, none⟩ (.pointer (some ⟨cb2, 0, none⟩))) := (Fr.refl _ _).setCell _ _ (.inl rfl)
      have hs48 := q1.size
      have hs7 := a3.size
      have hs8 := f8.size
      have k8 := a2.kept f8 (by omega) (by omega) (by omega)
      obtain ⟨r1, r2, r3⟩ := k8.c.lt
      refine ⟨cb2, a1, (row_cell hr7 1 _ rfl).1, (row_cell hr7 1 (.pointer none) rfl).2, _, rfl, row_set hr7 1 _, a3.any.trans f8, fun r => ?_⟩
      exact FIN.out _ (some ⟨cb2, 0, none⟩) _ r (Fr.then (q1.trans a3) f8 (fun i hi => .inr (by omega))) (by omega) ((q3.nw a3).kept f8 (by omega) (by omega) (by omega)) (.inr ⟨cb2, gb2, sb2, wb2, yb2, rfl, k8, hgb.1, ⟨by omega, r1⟩, ⟨by omega, r2⟩, ⟨by omega, r3⟩⟩) rfl (.inr hgb))
    clear BAD OK HO HM3 HMX HMI FIN HCO H6 HGA HLL HRW hgb hs0
    go_upto_region 9 with (first | (go_at_call 205; (with_reducible refine HC.out.mono ?_); rintro e w7 ⟨cb2, rfl, x1, x2, w8, hw8, hr, HFR, HF⟩))
    obtain ⟨y1, y2, y3, y4, y5, y6, y7, y8⟩ := CEL.out w8 (some ⟨cb2, 0, none⟩) (.inr HFR.out)
    clear CEL HC x1 x2
    (first | rw [hw8] | skip)
    clear hw8
    go_wp2_with (first | (refine wpList_load_row rfl 91 _ rfl ob (by first | rfl | simp [Act.eval]) 91 #[.pointer (some ⟨ca, 0, none⟩), .pointer (some ⟨cb2, 0, none⟩), .bool false] (0, 0) _ hr Tryz.underlying91 rfl szt ?_))
    go_end0
    exact HF.out _
end Go.Proofs.YtpjnbhflnbhnoaaGreatDoor

namespace Go.Proofs.YtpjnbhflnbhnoaaGreatDoor
open Go.RowKit
set_option linter.unusedVariables false
variable {sb rb : Nat} {K : Nat → Prop} {rv : Value} {v : Value} {b : List By} {p : Nat} {skip left : Int} {most told : Nat} {m : Mm} {s : Sx} {w : World}
/-- At a head nothing hangs on whether the block ahead was the last. -/
theorem SmI.head {B : Bool} (h : SmI sb K rv skip left most told m { s with lst := B } w) (hm : s.md = 0) : SmI sb K rv skip left most told m s w :=
  ⟨h.row, h.ks, h.lt, h.win, h.wi, h.pl, h.nw, h.np, fun e => absurd hm e, fun e => by omega, h.cf, h.pu, h.pd, h.ol, h.ml, h.td⟩
theorem StI.last {B : Bool} (h : StI sb rb K v b p skip left most told m s w) (hm : s.md = 0) : StI sb rb K v b p skip left most told { m with l := B } s (w.setCell ⟨sb, 8, none⟩ (.bool B)) ∧ StI sb rb K v b p skip left most told { m with l := B } { s with lst := B } (w.setCell ⟨sb, 8, none⟩ (.bool B)) ∧ Fr (fun k => k = sb) w (w.setCell ⟨sb, 8, none⟩ (.bool B)) := by
  obtain ⟨q1, q2⟩ := h.sm.set 8 (.bool B) (.pointer (some ⟨rb, 0, none⟩)) skip left { m with l := B } s rfl rfl rfl rfl rfl rfl rfl (fun e => absurd hm e) h.sm.cs h.sm.cf h.sm.pu h.sm.pd
  obtain ⟨q3, q4⟩ := h.sm.set 8 (.bool B) (.pointer (some ⟨rb, 0, none⟩)) skip left { m with l := B } { s with lst := B } rfl rfl rfl rfl rfl rfl rfl (fun e => absurd hm e) (fun e => absurd e (by simp only; omega)) h.sm.cf h.sm.pu h.sm.pd
  exact ⟨h.sm' q1 q2 rfl rfl, h.sm' q3 q4 rfl rfl, q2⟩
set_option maxHeartbeats 16000000 in
set_option maxRecDepth 100000 in
theorem head_any (h : StI sb rb K v b p skip left most told m s w) (hm : s.md = 0) (hT : Tab w) (h0 : K 5) :
    Calls Tryz.prog 162 #[.pointer (some ⟨sb, 0, none⟩)] w (Ps sb rb K v b skip left most told m s w (headR most s (bt b p))) := by
  obtain ⟨P, hP⟩ : ∃ P : Ending → World → Prop, P = Ps sb rb K v b skip left most told m s w (headR most s (bt b p)) := ⟨_, rfl⟩
  rw [← hP]
  have BAD : Hid (∀ y W l', headR most s (bt b p) = .bad y → SmI sb K (.pointer (some ⟨rb, 0, none⟩)) skip left most told { m with l := l' } s W → Fr (fun k => ¬ K k) w W → P (gv y) W) := fun y W l' h1 h2 h3 => by
    rw [hP]
    exact .inl ⟨y, h1, rfl, ⟨l', h2⟩, h3⟩
  have OK : Hid (∀ s' p' m' K' r W, headR most s (bt b p) = .ok (s', bt b p') → StI sb rb K' v b p' skip left most told m' s' W → (∀ k, K k → K' k) → (∀ k, K' k → K k ∨ w.heap.size ≤ k) → Fr (fun k => ¬ K k) w W → P (.returned r) W) := fun s' p' m' K' r W h1 h2 h3 h4 h5 => by
    rw [hP]
    exact .inr ⟨s', p', m', K', r, h1, rfl, h2, h3, h4, h5⟩
  have H : Hid (Tab w ∧ K 5 ∧ ¬ K rb) := ⟨hT, h0, h.kr⟩
  have HN0 : Hid (Calls Tryz.prog 182 #[.pointer (some ⟨sb, 0, none⟩), .int .i64 1] w (Rsn sb rb K v b skip left most told m s w (takeR 1 (bt b p)))) := num_st h 1 (by decide) 1 rfl
  have HG : Hid (∀ V, Calls Tryz.prog 186 #[.int .i64 60] V fun e w' => e = gv 60 ∧ V = w') := fun V => (giveUp_any 60 V).mono (fun e w' ⟨a1, a2⟩ => ⟨a1, a2.symm⟩)
  have HPP : Hid (P = Ps sb rb K v b skip left most told m s w (headR most s (bt b p))) := hP
  clear hP h hT h0
  go_enter Tryz.func162, Tryz.ntmps162
  go_wp2_with fail
  go_at_call 182
  with_reducible refine HN0.out.mono ?_
  unfold Rsn
  rintro e w0 (⟨y, rfl, H1⟩ | ⟨x, rfl, H1⟩)
  · exact ⟨rfl, BAD.out y w0 m.l (bindR_bad H1.out.1) H1.out.2.1 H1.out.2.2⟩
  obtain ⟨p0, q1, q2, q3⟩ := H1.out
  obtain ⟨B, hB⟩ : ∃ B, B = decide (x = 1) := ⟨_, rfl⟩
  have hBz : ((x : Int) == 1) = B := by
    rw [hB]
    by_cases e : x = 1
    · simp [e]
    · rw [decide_eq_false e]
      simp only [beq_eq_false_iff_ne, ne_eq]; omega
  obtain ⟨a1, a2, a3⟩ := q2.last (B := B) hm
  obtain ⟨c80, c81⟩ := sc8 q2.sm.row
  obtain ⟨w1, hw1⟩ : ∃ w1, w0.setCell ⟨sb, 8, none⟩ (.bool B) = w1 := ⟨_, rfl⟩
  rw [hw1] at a1 a2 a3
  have F1 : Hid (Fr (fun k => ¬ K k) w w1) := q3.trans (q2.frs a3)
  have TB : Hid (Tab w1) := H.out.1.kept F1.out (fun e => e H.out.2.1)
  have H2 : Hid (StI sb rb K v b p0 skip left most told { m with l := B } s w1 ∧ StI sb rb K v b p0 skip left most told { m with l := B } { s with lst := B } w1) := ⟨a1, a2⟩
  have HM : Hid (headR most s (bt b p) = (bindR (takeR 2) fun k =>
    if k = 0 then storedR most { s with lst := B }
    else if k = 1 then retR { s with lst := B, md := 2, la := fixA, lb := fixB }
    else if k = 2 then bindR ownR fun c => retR { s with lst := B, md := 2, la := c.1, lb := c.2 }
    else failR 60) (bt b p0)) := by
    show _ = _
    rw [hB]
    exact bindR_eq q1
  have HN1 : Hid (Calls Tryz.prog 182 #[.pointer (some ⟨sb, 0, none⟩), .int .i64 2] w1 (Rsn sb rb K v b skip left most told { m with l := B } s w1 (takeR 2 (bt b p0)))) := num_st a1 2 (by decide) 2 rfl
  clear q1 q2 q3 a1 a2 a3 HN0 H1 hB
  go_wp2_with fail
  go_at_call 182
  with_reducible refine HN1.out.mono ?_
  unfold Rsn
  rintro e w2 (⟨y, rfl, H3⟩ | ⟨k, rfl, H3⟩)
  · exact ⟨rfl, BAD.out y w2 B (by rw [HM.out]; exact bindR_bad H3.out.1) H3.out.2.1 (F1.out.trans H3.out.2.2)⟩
  have hk4 : k < 4 := by
    obtain ⟨p1, q1, _⟩ := H3.out
    exact takeR_lt q1
  obtain ⟨p1, hp1⟩ : ∃ p1, Hid (headR most s (bt b p) = (
    if k = 0 then storedR most { s with lst := B }
    else if k = 1 then retR { s with lst := B, md := 2, la := fixA, lb := fixB }
    else if k = 2 then bindR ownR fun c => retR { s with lst := B, md := 2, la := c.1, lb := c.2 }
    else failR 60) (bt b p1) ∧ StI sb rb K v b p1 skip left most told { m with l := B } s w2 ∧ StI sb rb K v b p1 skip left most told { m with l := B } { s with lst := B } w2 ∧ Fr (fun k => ¬ K k) w w2) := by
    obtain ⟨p1, q1, q2, q3⟩ := H3.out
    refine ⟨p1, by rw [HM.out]; exact bindR_eq q1, q2, ?_, F1.out.trans q3⟩
    obtain ⟨b1, b2⟩ := H2.out
    have hm2 := q2.sm
    exact ⟨⟨hm2.row, hm2.ks, hm2.lt, hm2.win, hm2.wi, hm2.pl, hm2.nw, hm2.np, fun e => absurd hm e, fun e => absurd e (by simp only; omega), hm2.cf, hm2.pu, hm2.pd, hm2.ol, hm2.ml, hm2.td⟩, q2.rr, q2.re, q2.rw, q2.rp, q2.bl⟩
  have TB2 : Hid (Tab w2) := H.out.1.kept hp1.out.2.2.2 (fun e => e H.out.2.1)
  clear H3 HN1 HM H2 TB F1
  rcases (show k = 0 ∨ k = 1 ∨ k = 2 ∨ k = 3 by omega) with rfl | rfl | rfl | rfl
  · have HC : Hid (Calls Tryz.prog 183 #[.pointer (some ⟨sb, 0, none⟩)] w2 fun e W => (∃ y, e = gv y ∧ Hid (P (gv y) W)) ∨ (∃ r, e = .returned r ∧ Hid (∀ r, P (.returned r) W))) := (storedHead_any hp1.out.2.2.1 rfl).mono (fun e W hh => by
      have hM : headR most s (bt b p) = storedR most { s with lst := B } (bt b p1) := by rw [hp1.out.1, if_pos rfl]
      rcases hh with ⟨y, a1, a2, ⟨l', a3⟩, a4⟩ | ⟨s', p', m', K', x, a1, a2, a3, a4, a5, a6⟩
      · exact .inl ⟨y, a2, BAD.out y W l' (by rw [hM]; exact a1) (a3.head hm) (hp1.out.2.2.2.trans a4)⟩
      · refine .inr ⟨x, a2, fun r => OK.out s' p' m' K' r W (by rw [hM]; exact a1) a3 a4 (fun k hk => ?_) (hp1.out.2.2.2.trans a6)⟩
        rcases a5 k hk with e | e
        · exact .inl e
        · exact .inr (Nat.le_trans hp1.out.2.2.2.size e))
    clear BAD OK hp1 TB2 HPP H
    go_wp2_with fail
    go_at_call 183
    with_reducible refine HC.out.mono ?_
    rintro e w3 (⟨z, rfl, HF⟩ | ⟨r, rfl, HF⟩)
    · exact ⟨rfl, HF.out⟩
    · go_wp2_with fail
      go_end0
      exact HF.out _
  · have HC : Hid (Calls Tryz.prog 184 #[.pointer (some ⟨sb, 0, none⟩)] w2 fun e W => (∃ r, e = .returned r) ∧ Hid (∀ r, P (.returned r) W)) := (fixedCodes_any hp1.out.2.2.1 rfl).mono (fun e W ⟨a1, ⟨m', K', a2, a3, a4⟩, a5⟩ => by
      have hM : headR most s (bt b p) = .ok ({ s with lst := B, md := 2, la := fixA, lb := fixB }, bt b p1) := by rw [hp1.out.1, if_neg (by decide), if_pos rfl]; rfl
      refine ⟨a1, fun r => OK.out _ p1 m' K' r W hM a2 a3 (fun k hk => ?_) (hp1.out.2.2.2.trans a5)⟩
      rcases a4 k hk with e | e
      · exact .inl e
      · exact .inr (Nat.le_trans hp1.out.2.2.2.size e))
    clear BAD OK hp1 TB2 HPP H
    go_wp2_with (first | (go_at_call 184; (with_reducible refine HC.out.mono ?_); rintro e w3 ⟨⟨r, rfl⟩, HF⟩))
    go_end0
    exact HF.out _
  · have HC : Hid (Calls Tryz.prog 185 #[.pointer (some ⟨sb, 0, none⟩)] w2 fun e W => (∃ y, e = gv y ∧ Hid (P (gv y) W)) ∨ (∃ r, e = .returned r ∧ Hid (∀ r, P (.returned r) W))) := (ownCodes_any hp1.out.2.2.1 rfl TB2.out (fun e => H.out.2.2 (by rw [e]; exact H.out.2.1))).mono (fun e W hh => by
      have hM : headR most s (bt b p) = (bindR ownR fun c => retR { s with lst := B, md := 2, la := c.1, lb := c.2 }) (bt b p1) := by rw [hp1.out.1, if_neg (by decide), if_neg (by decide), if_pos rfl]
      rcases hh with ⟨y, a1, a2, a3, a4⟩ | ⟨la, lb, p', m', K', x, a1, a2, a3, a4, a5, a6⟩
      · exact .inl ⟨y, a2, BAD.out y W B (by rw [hM]; exact bindR_bad a1) (a3.head hm) (hp1.out.2.2.2.trans a4)⟩
      · refine .inr ⟨x, a2, fun r => OK.out _ p' m' K' r W (by rw [hM, bindR_eq a1]; rfl) a3 a4 (fun k hk => ?_) (hp1.out.2.2.2.trans a6)⟩
        rcases a5 k hk with e | e
        · exact .inl e
        · exact .inr (Nat.le_trans hp1.out.2.2.2.size e))
    clear BAD OK hp1 TB2 HPP H
    go_wp2_with fail
    go_at_call 185
    with_reducible refine HC.out.mono ?_
    rintro e w3 (⟨z, rfl, HF⟩ | ⟨r, rfl, HF⟩)
    · exact ⟨rfl, HF.out⟩
    · go_wp2_with fail
      go_end0
      exact HF.out _
  · have HF : Hid (P (gv 60) w2) := BAD.out 60 w2 B (by rw [hp1.out.1, if_neg (by decide), if_neg (by decide), if_neg (by decide)]; rfl) hp1.out.2.1.sm hp1.out.2.2.2
    clear BAD OK hp1 TB2 HPP H
    go_wp2_with (first | (go_at_call 186; (with_reducible refine (HG.out _).mono ?_); rintro e w4 ⟨rfl, rfl⟩))
    exact ⟨rfl, HF.out⟩
end Go.Proofs.YtpjnbhflnbhnoaaGreatDoor

namespace Go.Proofs.YtpjnbhflnbhnoaaGreatDoor
open Go.RowKit
set_option linter.unusedVariables false
variable {sb rb : Nat} {K : Nat → Prop} {rv : Value} {v : Value} {b : List By} {p : Nat} {skip left : Int} {most told : Nat} {m : Mm} {s : Sx} {w : World}
/-- Where the stream may stand, by its bits. -/
def Bn (most : Nat) (t : Bt) (s : Sx) : Prop := s.md ≤ 3 ∧ (s.md = 1 → 1 ≤ s.sto ∧ s.sto ≤ most - s.out.length ∧ s.sto ≤ 65535 ∧ t.n % 8 = 0)
theorem endB_bn {most : Nat} {s s' : Sx} {t t' : Bt} (h : endB s t = .ok (s', t')) : (s'.md = 0 ∨ s'.md = 3) ∧ s'.out = s.out := by
  unfold endB at h
  split at h
  · obtain ⟨_, t1, _, q2⟩ := bindR_ok h
    injection q2 with q2
    injection q2 with q2
    rw [← q2]; exact ⟨.inr rfl, rfl⟩
  · injection h with h
    injection h with h
    rw [← h]; exact ⟨.inl rfl, rfl⟩
theorem takeR_n {k x : Nat} {t t' : Bt} (h : takeR k t = .ok (x, t')) : t'.n = t.n - k ∧ k ≤ t.n := by
  unfold takeR at h
  split at h
  · cases h
  · injection h with h
    injection h with _ h
    rw [← h]; exact ⟨rfl, by omega⟩
theorem storedR_bn {most : Nat} {s s' : Sx} {t t' : Bt} (h : storedR most s t = .ok (s', t')) : Bn most t' s' := by
  obtain ⟨_, t1, q1, q2⟩ := bindR_ok h
  obtain ⟨n, t2, q3, q4⟩ := bindR_ok q2
  obtain ⟨k, t3, q5, q6⟩ := bindR_ok q4
  have e1 : t1.n % 8 = 0 := by
    unfold alignR at q1
    injection q1 with q1
    injection q1 with _ q1
    rw [← q1]; simp only; omega
  have e2 := takeR_n q3
  have e3 := takeR_n q5
  have hn := takeR_lt q3
  have hn' : n < 65536 := hn
  split at q6
  · cases q6
  · split at q6
    · cases q6
    · split at q6
      · have := (endB_bn (most := most) q6).1
        exact ⟨by omega, fun e => by omega⟩
      · injection q6 with q6
        injection q6 with q6 q7
        rw [← q6, ← q7]
        exact ⟨by simp, fun _ => ⟨by simp only; omega, by simp only; omega, by simp only; omega, by omega⟩⟩
theorem stepR_bn {most : Nat} {s s' : Sx} {t t' : Bt} (hm : s.md ≠ 1) (h : stepR most s t = .ok (s', t')) : Bn most t' s' := by
  unfold stepR at h
  split at h
  · obtain ⟨l, t1, q1, q2⟩ := bindR_ok h
    obtain ⟨k, t2, q3, q4⟩ := bindR_ok q2
    split at q4
    · exact storedR_bn q4
    · split at q4
      · injection q4 with q4
        injection q4 with q4
        rw [← q4]; exact ⟨by simp, fun e => by simp at e⟩
      · split at q4
        · obtain ⟨c, t3, q5, q6⟩ := bindR_ok q4
          injection q6 with q6
          injection q6 with q6
          rw [← q6]; exact ⟨by simp, fun e => by simp at e⟩
        · cases q4
  · try rw [if_neg hm] at h
    split at h
    · rename_i h2
      obtain ⟨y, t1, q1, q2⟩ := bindR_ok h
      split at q2
      · split at q2
        · cases q2
        · injection q2 with q2
          injection q2 with q2
          rw [← q2]; exact ⟨by simp only; omega, fun e => by simp only at e; omega⟩
      · split at q2
        · have := (endB_bn (most := most) q2).1
          exact ⟨by omega, fun e => by omega⟩
        · split at q2
          · obtain ⟨n, t2, q3, q4⟩ := bindR_ok q2
            obtain ⟨d, t3, q5, q6⟩ := bindR_ok q4
            split at q6
            · cases q6
            · split at q6
              · cases q6
              · injection q6 with q6
                injection q6 with q6
                rw [← q6]; exact ⟨by simp only; omega, fun e => by simp only at e; omega⟩
          · cases q2
    · cases h
/-- From one step of the document's. -/
theorem Ps.pst {e : Ending} {w' : World} (hm : s.md ≠ 1) (hm3 : s.md ≠ 3) (h : Ps sb rb K v b skip left most told m s w (stepR most s (bt b p)) e w') (hp : p ≤ 8 * b.length) : Pst sb rb K v b p skip left most told m s w e w' := by
  rcases h with ⟨y, a1, a2, a3, a4⟩ | ⟨s', p', m', K', x, a1, a2, a3, a4, a5, a6⟩
  · exact .inl ⟨y, a1, a2, a3, a4⟩
  · have hd := Dec.step most s _ _ _ a1
    rw [bt_n, bt_n] at hd
    have hb := a3.bl
    obtain ⟨b1, b2⟩ := stepR_bn hm a1
    refine .inr ⟨s', p', m', K', x, run_ok hm3 a1, by omega, ⟨b1, fun e => ?_⟩, a2, a3, a4, a5, a6⟩
    obtain ⟨c1, c2, c3, c4⟩ := b2 e
    rw [bt_n] at c4
    exact ⟨c1, c2, c3, by omega⟩
set_option maxHeartbeats 16000000 in
set_option maxRecDepth 100000 in
theorem step_any (h : StI sb rb K v b p skip left most told m s w) (hb : Bd most p s) (hm : s.md ≠ 3) (hT : Tab w) (h0 : K 5) :
    Calls Tryz.prog 131 #[.pointer (some ⟨sb, 0, none⟩)] w fun e W => (∃ y, e = gv y ∧ Hid (Pst sb rb K v b p skip left most told m s w (gv y) W)) ∨ (∃ r, e = .returned r ∧ Hid (∀ r, Pst sb rb K v b p skip left most told m s w (.returned r) W)) := by
  obtain ⟨P, hP⟩ : ∃ P : Ending → World → Prop, P = fun e W => (∃ y, e = gv y ∧ Hid (Pst sb rb K v b p skip left most told m s w (gv y) W)) ∨ (∃ r, e = .returned r ∧ Hid (∀ r, Pst sb rb K v b p skip left most told m s w (.returned r) W)) := ⟨_, rfl⟩
  rw [← hP]
  have PP : ∀ {f : FuncId}, Calls Tryz.prog f #[.pointer (some ⟨sb, 0, none⟩)] w (Pst sb rb K v b p skip left most told m s w) → Calls Tryz.prog f #[.pointer (some ⟨sb, 0, none⟩)] w fun e W => (∃ y, e = gv y ∧ Hid (P (gv y) W)) ∨ (∃ r, e = .returned r ∧ Hid (∀ r, P (.returned r) W)) := fun hc => hc.mono (fun e W hh => by
    rcases hh with ⟨y, a1, a2, a3, a4⟩ | ⟨s', p', m', K', x, a1, a2, a3, a4, a5, a6, a7, a8⟩
    · refine .inl ⟨y, a2, ?_⟩
      show P _ _
      rw [hP]
      exact .inl ⟨y, rfl, .inl ⟨y, a1, rfl, a3, a4⟩⟩
    · refine .inr ⟨x, a4, fun r => ?_⟩
      rw [hP]
      exact .inr ⟨r, rfl, fun r => .inr ⟨s', p', m', K', r, a1, a2, a3, rfl, a5, a6, a7, a8⟩⟩)
  have c7 := (sc7 h.sm.row).1
  rcases (show s.md = 0 ∨ s.md = 1 ∨ s.md = 2 by have := hb.1; omega) with hm0 | hm1 | hm2
  · have HC : Hid (Calls Tryz.prog 162 #[.pointer (some ⟨sb, 0, none⟩)] w fun e W => (∃ y, e = gv y ∧ Hid (P (gv y) W)) ∨ (∃ r, e = .returned r ∧ Hid (∀ r, P (.returned r) W))) := PP ((head_any h hm0 hT h0).mono (fun e W hh => Ps.pst (by omega) hm (by rw [stepR, if_pos hm0]; exact hh) h.bl))
    rw [hm0] at c7
    clear hP h hb PP
    go_enter Tryz.func131, Tryz.ntmps131
    go_wp2_with fail
    go_at_call 162
    with_reducible refine HC.out.mono ?_
    rintro e w3 (⟨z, rfl, HF⟩ | ⟨r, rfl, HF⟩)
    · exact ⟨rfl, HF.out⟩
    · go_wp2_with fail
      go_end0
      exact HF.out _
  · have HC : Hid (Calls Tryz.prog 163 #[.pointer (some ⟨sb, 0, none⟩)] w fun e W => (∃ y, e = gv y ∧ Hid (P (gv y) W)) ∨ (∃ r, e = .returned r ∧ Hid (∀ r, P (.returned r) W))) := PP (storedBytes_any h hb hm1)
    rw [hm1] at c7
    clear hP h hb PP
    go_enter Tryz.func131, Tryz.ntmps131
    go_wp2_with fail
    go_at_call 163
    with_reducible refine HC.out.mono ?_
    rintro e w3 (⟨z, rfl, HF⟩ | ⟨r, rfl, HF⟩)
    · exact ⟨rfl, HF.out⟩
    · go_wp2_with fail
      go_end0
      exact HF.out _
  · have HC : Hid (Calls Tryz.prog 164 #[.pointer (some ⟨sb, 0, none⟩)] w fun e W => (∃ y, e = gv y ∧ Hid (P (gv y) W)) ∨ (∃ r, e = .returned r ∧ Hid (∀ r, P (.returned r) W))) := PP ((symbol_any h hm2).mono (fun e W hh => Ps.pst (by omega) hm (by rw [stepR, if_neg (by omega), if_neg (by omega), if_pos hm2]; exact hh) h.bl))
    rw [hm2] at c7
    clear hP h hb PP
    go_enter Tryz.func131, Tryz.ntmps131
    go_wp2_with fail
    go_at_call 164
    with_reducible refine HC.out.mono ?_
    rintro e w3 (⟨z, rfl, HF⟩ | ⟨r, rfl, HF⟩)
    · exact ⟨rfl, HF.out⟩
    · go_wp2_with fail
      go_end0
      exact HF.out _
end Go.Proofs.YtpjnbhflnbhnoaaGreatDoor
