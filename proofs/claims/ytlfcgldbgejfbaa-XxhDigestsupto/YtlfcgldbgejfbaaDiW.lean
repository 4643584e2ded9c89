import Derived.Test.YtlfcgldbgejfbaaDiC
namespace Go.Proofs.Ytlfcgldbgejfbaa
open Go.RowKit
set_option linter.unusedVariables false
set_option maxHeartbeats 40000000 in
set_option maxRecDepth 100000 in
theorem writes0 (w : World) (sb : Nat) (s o : BitVec 64) (D : Nat → Nat) (T : Nat → Value) (L : Nat → List By) (V : World) (h : DInv w sb s o D T L V) (xa : Option Addr) (xc : Nat) (m : List By) (hx : Old w (.slice xa m.length xc) m) (hl : (L 0).length + m.length ≤ 1048576) :
    Calls Try.prog 15 #[.pointer (some ⟨sb, 0, none⟩), .int .i64 0, .slice xa m.length xc] V fun e w' => e = .returned (.bool true) ∧ ∃ t, DInv w sb s o D (upd T 0 t) (upd L 0 (L 0 ++ m)) w' := by
  have hxV : Old V (.slice xa m.length xc) m := Sl.later hx h.nw
  obtain ⟨v1, g1, W1, hap1, hO1, hF1, hg1⟩ := app_any (V.alloc (.cells #[] 5)) V.heap.size _ [] (Ow.empty V) (.slice xa m.length xc) m ((hxV.nw ((Fr.refl _ _).alloc _)).mono (fun _ h => h.elim)) (by simp; omega)
  rw [List.nil_append] at hO1
  have hN1 : Nw V W1 := Fr.then ((Fr.refl _ _).alloc _) hF1 (fun i hi => .inr (by omega))
  have hg1' : V.heap.size ≤ g1 := by rcases hg1 with h | h; omega; simp at h; omega
  obtain ⟨v2, g2, W2, hap2, hO2, hF2, hg2⟩ := app_any (W1.alloc (.cells #[.int .u8 1, .int .u8 2, .int .u8 3] 5)) g1 v1 m (hO1.nw ((Fr.refl _ _).alloc _)) (.slice (some ⟨W1.heap.size, 0, none⟩) 3 3) [1#8, 2#8, 3#8] (one_two_three W1) (by simp; omega)
  have hN2 : Nw V W2 := Fr.then (hN1.alloc _) hF2 (fun i hi => .inr (by omega))
  have hg2' : V.heap.size ≤ g2 := by
    have := hN1.size
    rcases hg2 with h | h
    · omega
    · simp at h; omega
  obtain ⟨c2, rfl, hc2, hc2', hO3⟩ := hO2.cut m.length (by simp)
  rw [List.take_left] at hO3
  have hstr : Hid (str m ++ ({ data := #[1, 2, 3] } : ByteArray) = str (m ++ [1#8, 2#8, 3#8])) := by show _ = _; rw [← str_app]; rfl
  have hDs := h.nws hN2
  have hDl : D 0 < V.heap.size := (h.tk 0 (by decide)).lt
  have hsl : sb < V.heap.size := (Array.getElem?_eq_some_iff.1 h.st).1
  -- the write
  have HW : Hid (Calls Try.prog 20 #[.pointer (some ⟨D 0, 0, none⟩), .slice (some ⟨g2, 0, none⟩) m.length c2] W2 fun e w3 => (∃ r, e = .returned r) ∧ Hid (Took32 (D 0) (s.setWidth 32) (L 0 ++ m) w3) ∧ Hid (Fr (fun k => k = D 0) W2 w3) ∧ Hid (Ow g2 (.slice (some ⟨g2, 0, none⟩) (m.length + 3) c2) (m ++ [1#8, 2#8, 3#8]) w3) ∧ (convert 24 9 (.slice (some ⟨g2, 0, none⟩) (m.length + 3) c2)).run Try.prog w3 = .ok (.string (str (m ++ [1#8, 2#8, 3#8]))) w3 ∧ (convert 24 9 (.slice xa m.length xc)).run Try.prog w3 = .ok (.string (str m)) w3) := by
    refine (write32_any (D 0) (s.setWidth 32) (L 0) _ m W2 (hDs.tk 0 (by decide)) (.inr ⟨g2, by omega, hO3.slb⟩)).mono ?_
    rintro e w3 ⟨hr, hT, hF⟩
    rw [show (m ++ [1#8, 2#8, 3#8]).length = m.length + 3 by simp] at hO2
    have hO4 := hO2.kept hF (by show ¬ g2 = D 0; omega)
    refine ⟨hr, hT, hF, hO4, ?_, ?_⟩
    · exact conv_any hO4.old
    · have hNw3 : Nw w w3 := Fr.then hDs.nw hF (fun k hk => .inr (by have := h.base.2 0 (by decide); omega))
      exact conv_any (Sl.later hx hNw3)
  have c0 : W2.cell? ⟨sb, 0, none⟩ = some (.pointer (some ⟨D 0, 0, none⟩)) := hDs.cell 0 _ rfl
  have hs1 : (str m).size = m.length := str_size m
  have hs2 : ({ data := #[1, 2, 3] } : ByteArray).size = 3 := rfl
  rw [show (m ++ [1#8, 2#8, 3#8]).length = m.length + 3 by simp] at hap2 hc2
  have HAP1 : Hid (∀ ty, (Builtin.append_ #[24, 24] ty #[.slice (some ⟨V.heap.size, 0, none⟩) 0 0, .slice xa m.length xc]).run Try.prog (V.alloc (.cells #[] 5)) = .ok v1 W1) := hap1
  have HAP2 : Hid (∀ ty, (Builtin.append_ #[24, 24] ty #[v1, .slice (some ⟨W1.heap.size, 0, none⟩) 3 3]).run Try.prog (W1.alloc (.cells #[.int .u8 1, .int .u8 2, .int .u8 3] 5)) = .ok (.slice (some ⟨g2, 0, none⟩) (m.length + 3) c2) W2) := hap2
  have hml : Hid (m.length ≤ 1048576) := by show _ ≤ _; omega
  have HX : Hid (Old w (.slice xa m.length xc) m) := hx
  have Hh : Hid (DInv w sb s o D T L V ∧ Nw V W2 ∧ V.heap.size ≤ g2 ∧ D 0 < V.heap.size ∧ sb < V.heap.size ∧ (L 0).length + m.length ≤ 1048576) := ⟨h, hN2, hg2', hDl, hsl, hl⟩
  clear hap1 hap2 hO1 hO2 hO3 hF1 hF2 hN1 hN2 hg1 hg2 hg1' hx hxV hDs h hl
  have hd : D 0 ≠ g2 := by omega
  generalize str (m ++ [1#8, 2#8, 3#8]) = SA at *
  generalize str m = SB at *
  obtain ⟨n, hn⟩ : ∃ n, n = m.length := ⟨_, rfl⟩
  rw [← hn] at HAP1 HAP2 HW hc2 hs1 HX hml ⊢
  have hnH : Hid (n = m.length) := hn
  clear hn
  have hz : (n : Int) ≤ (c2 : Int) := by omega
  have hn20 : n ≤ 1048576 := hml.out
  go_enter Try.func15, Try.ntmps15
  go_wp2_with (first
      | (at_builtin; refine Lib.wpList_append_run _ rfl _ _ 24 24 rfl (.slice (some ⟨V.heap.size, 0, none⟩) 0 0) (.slice xa n xc) (by simp [Act.eval]) (by simp [Act.eval]) _ _ (HAP1.out _) ?_)
      | (at_builtin; refine Lib.wpList_append_run _ rfl _ _ 24 24 rfl v1 (.slice (some ⟨W1.heap.size, 0, none⟩) 3 3) (by simp [Act.eval]) (by simp [Act.eval]) _ _ (HAP2.out _) ?_)
      | (go_at_call 20; with_reducible refine (HW.out).mono ?_; rintro e w3 ⟨⟨r3, rfl⟩, HT3, HF3, HO3, hcv1, hcv2⟩))
  have HI0 : Hid (∃ y, y.length = n + 3 ∧ Ow g2 (.slice (some ⟨g2, 0, none⟩) (n + 3) c2) y w3 ∧ Fr (fun k => k = g2) w3 w3) := ⟨_, by rw [hnH.out]; simp, HO3.out, Fr.refl _ _⟩
  clear hcv1 hcv2 hs1 hs2 HO3
  go_loopg [10] (n + 3) (fun kx t wr => ∃ (k : Nat) (z : Int), k ≤ n + 3 ∧ n + 3 - k ≤ kx ∧ t = .int .i64 z ∧ z = k ∧ Hid (∃ y, y.length = n + 3 ∧ Ow g2 (.slice (some ⟨g2, 0, none⟩) (n + 3) c2) y wr ∧ Fr (fun k => k = g2) w3 wr))
  case atStart => exact ⟨0, 0, Nat.zero_le _, Nat.le_refl _, rfl, rfl, HI0⟩
  case round =>
    obtain ⟨k, z, hk, hkx, rfl, hz', HI⟩ := hrel
    clear HI0
    by_cases hlt : k < n + 3
    · obtain ⟨y, hy, hO, hF⟩ := HI.out
      obtain ⟨p1, p2⟩ := hO.at k (by omega)
      have HN : Hid (∀ q, q = (238 : Int) → ∃ y, y.length = n + 3 ∧ Ow g2 (.slice (some ⟨g2, 0, none⟩) (n + 3) c2) y (wr.setCell ⟨g2, k, none⟩ (.int .u8 q)) ∧ Fr (fun k => k = g2) w3 (wr.setCell ⟨g2, k, none⟩ (.int .u8 q))) := fun q hq => ⟨y.set k 238#8, by simp [hy], hO.put k (by omega) 238#8 q hq, hF.setCell _ _ (.inl rfl)⟩
      clear HI hO hF
      have hx1 : z < (n : Int) + 3 := by omega
      have hx2 : 0 ≤ z := by omega
      have hx3 : z.toNat = k := by omega
      go_wp2_with fail
      all_goals go_roundg (n + 3 - (k + 1))
      all_goals (first | omega | exact ⟨k + 1, _, by omega, by omega, rfl, by omega, HN.out _ rfl⟩)
    · obtain rfl : k = n + 3 := by omega
      have hx1 : ¬ z < (n : Int) + 3 := by omega
      obtain ⟨hD, hN2, hg2l, hDl, hsl, hll⟩ := Hh.out
      obtain ⟨y, hy, hO, hF⟩ := HI.out
      obtain ⟨ta, tc, ht⟩ := (hD.own 0 (by decide)).slice
      have hwsz : V.heap.size ≤ wr.heap.size := Nat.le_trans hN2.size (Nat.le_trans HF3.out.size hF.size)
      have hFV : Fr (fun k => k = D 0) V wr := Fr.then (Fr.then hN2.any HF3.out (fun k hk => .inl hk)) hF (fun k hk => .inr (by omega))
      have hNwr : Nw w wr := Fr.then hD.nw hFV (fun k hk => .inr (by have := hD.base.2 0 (by decide); omega))
      have hTr : Took32 (D 0) (s.setWidth 32) (L 0 ++ m) wr := HT3.out.kept hF hd
      have hOw : Old wr (T 0) (L 0) := ((hD.own 0 (by decide)).kept hFV (fun g hg => .inr (.inl ⟨0, by decide, hg⟩))).old
      have hN6a : Nw wr (wr.alloc (.cells #[] 5)).drew := ((Fr.refl _ _).alloc _).drew
      obtain ⟨v6, g6, W6, hap6, hO6, hF6, hg6⟩ := app_any (wr.alloc (.cells #[] 5)).drew wr.heap.size _ [] ((Ow.empty wr).nw (Fr.refl _ _).drew) (T 0) (L 0) ((hOw.nw hN6a).mono (fun _ h => h.elim)) (by simp; omega)
      rw [List.nil_append] at hO6
      have hN6 : Nw wr W6 := Fr.then hN6a hF6 (fun k hk => .inr (by omega))
      have hg6' : wr.heap.size ≤ g6 := by
        rcases hg6 with h | h
        · omega
        · exact Nat.le_trans hN6a.size h
      have hxr : Old wr (.slice xa n xc) m := Sl.later HX.out hNwr
      obtain ⟨v7, g7, W7, hap7, hO7, hF7, hg7⟩ := app_any W6 g6 v6 (L 0) hO6 (.slice xa n xc) m ((hxr.nw hN6).mono (fun _ h => h.elim)) (by omega)
      have hN7 : Nw wr W7 := Fr.then hN6 hF7 (fun k hk => .inr (by omega))
      have hg7' : V.heap.size ≤ g7 := by
        have := hN6.size
        rcases hg7 with h | h <;> omega
      have hst7 : W7.heap[sb]? = some (.cells (scells s o D T) 36) := hN7.heap ((hFV.block sb hsl (fun e => hD.sbd 0 (by decide) e.symm)).trans hD.st)
      have hcW : wr.cell? ⟨sb, 4, none⟩ = some (.slice ta (L 0).length tc) := by
        rw [← ht]
        exact hFV.cellv (hD.cell 4 _ rfl) (fun e => hD.sbd 0 (by decide) e.symm)
      have hcA : (wr.alloc (.cells #[] 5)).cell? ⟨sb, 4, none⟩ = some (.slice ta (L 0).length tc) := Nw.cell ((Fr.refl _ _).alloc _) hcW
      have hc7 : W7.cell? ⟨sb, 4, none⟩ = some (.slice ta (L 0).length tc) := hN7.cell hcW
      have hf7 : W7.frozen? ⟨sb, 4, none⟩ = false := by simp [World.frozen?, hst7]
      have hFin : Hid (∃ t, DInv w sb s o D (upd T 0 t) (upd L 0 (L 0 ++ m)) (W7.setCell ⟨sb, 4, none⟩ v7)) := ⟨v7, hD.wrote 0 (by decide) W7 (hFV.then hN7 (fun _ h => h.elim)) _ (hTr.nw hN7) v7 (.inr ⟨g7, hg7', hO7⟩)⟩
      have hv7 : ∃ p q, v7 = .slice p (L 0 ++ m).length q := by
        obtain ⟨xs, h1, _⟩ := hO7
        exact ⟨_, _, h1⟩
      obtain ⟨p7, q7, hv7⟩ := hv7
      rw [hv7] at hap7 hFin
      have hne1 : ¬ sb = wr.heap.size := by omega
      have hne2 : ¬ wr.heap.size = sb := by omega
      have HAP6 : Hid _ := hap6
      have HAP7 : Hid _ := hap7
      have hq : Hid (SA.toList = (SB ++ { data := #[1, 2, 3] }).toList) := by show _ = _; rw [hstr.out]
      rw [ht] at HAP6
      clear hD hN2 hg2l hDl hsl hll hO hF HI hFV hNwr hTr hOw hN6a hap6 hO6 hF6 hg6 hN6 hg6' hxr hap7 hO7 hF7 hg7 hN7 hg7' hst7 hv7 hy HT3 HF3 Hh HX ht hstr
      generalize (L 0).length = tn at *
      generalize (L 0 ++ m).length = t7 at *
      go_wp2_with fail
      go_region_law (first
        | (refine step_append_run rfl _ _ rfl (.slice (some ⟨wr.heap.size, 0, none⟩) 0 0) (.slice ta tn tc) (by simp [Act.eval]) (by simp [Act.eval]) _ _ (HAP6.out) ?_)
        | (refine step_append_run rfl _ _ rfl v6 (.slice xa n xc) (by simp [Act.eval]) (by simp [Act.eval]) _ _ (HAP7.out) ?_))
      all_goals go_wp2_with fail
      all_goals go_ret
      all_goals exact ⟨by rw [hq.out]; simp, hFin.out⟩
set_option maxHeartbeats 40000000 in
set_option maxRecDepth 100000 in
theorem writes1 (w : World) (sb : Nat) (s o : BitVec 64) (D : Nat → Nat) (T : Nat → Value) (L : Nat → List By) (V : World) (h : DInv w sb s o D T L V) (xa : Option Addr) (xc : Nat) (m : List By) (hx : Old w (.slice xa m.length xc) m) (hl : (L 1).length + m.length ≤ 1048576) :
    Calls Try.prog 15 #[.pointer (some ⟨sb, 0, none⟩), .int .i64 1, .slice xa m.length xc] V fun e w' => e = .returned (.bool true) ∧ ∃ t, DInv w sb s o D (upd T 1 t) (upd L 1 (L 1 ++ m)) w' := by
  have hxV : Old V (.slice xa m.length xc) m := Sl.later hx h.nw
  obtain ⟨v1, g1, W1, hap1, hO1, hF1, hg1⟩ := app_any (V.alloc (.cells #[] 5)) V.heap.size _ [] (Ow.empty V) (.slice xa m.length xc) m ((hxV.nw ((Fr.refl _ _).alloc _)).mono (fun _ h => h.elim)) (by simp; omega)
  rw [List.nil_append] at hO1
  have hN1 : Nw V W1 := Fr.then ((Fr.refl _ _).alloc _) hF1 (fun i hi => .inr (by omega))
  have hg1' : V.heap.size ≤ g1 := by rcases hg1 with h | h; omega; simp at h; omega
  obtain ⟨v2, g2, W2, hap2, hO2, hF2, hg2⟩ := app_any (W1.alloc (.cells #[.int .u8 1, .int .u8 2, .int .u8 3] 5)) g1 v1 m (hO1.nw ((Fr.refl _ _).alloc _)) (.slice (some ⟨W1.heap.size, 0, none⟩) 3 3) [1#8, 2#8, 3#8] (one_two_three W1) (by simp; omega)
  have hN2 : Nw V W2 := Fr.then (hN1.alloc _) hF2 (fun i hi => .inr (by omega))
  have hg2' : V.heap.size ≤ g2 := by
    have := hN1.size
    rcases hg2 with h | h
    · omega
    · simp at h; omega
  obtain ⟨c2, rfl, hc2, hc2', hO3⟩ := hO2.cut m.length (by simp)
  rw [List.take_left] at hO3
  have hstr : Hid (str m ++ ({ data := #[1, 2, 3] } : ByteArray) = str (m ++ [1#8, 2#8, 3#8])) := by show _ = _; rw [← str_app]; rfl
  have hDs := h.nws hN2
  have hDl : D 1 < V.heap.size := (h.tk 1 (by decide)).lt
  have hsl : sb < V.heap.size := (Array.getElem?_eq_some_iff.1 h.st).1
  -- the write
  have HW : Hid (Calls Try.prog 20 #[.pointer (some ⟨D 1, 0, none⟩), .slice (some ⟨g2, 0, none⟩) m.length c2] W2 fun e w3 => (∃ r, e = .returned r) ∧ Hid (Took32 (D 1) (o.setWidth 32) (L 1 ++ m) w3) ∧ Hid (Fr (fun k => k = D 1) W2 w3) ∧ Hid (Ow g2 (.slice (some ⟨g2, 0, none⟩) (m.length + 3) c2) (m ++ [1#8, 2#8, 3#8]) w3) ∧ (convert 24 9 (.slice (some ⟨g2, 0, none⟩) (m.length + 3) c2)).run Try.prog w3 = .ok (.string (str (m ++ [1#8, 2#8, 3#8]))) w3 ∧ (convert 24 9 (.slice xa m.length xc)).run Try.prog w3 = .ok (.string (str m)) w3) := by
    refine (write32_any (D 1) (o.setWidth 32) (L 1) _ m W2 (hDs.tk 1 (by decide)) (.inr ⟨g2, by omega, hO3.slb⟩)).mono ?_
    rintro e w3 ⟨hr, hT, hF⟩
    rw [show (m ++ [1#8, 2#8, 3#8]).length = m.length + 3 by simp] at hO2
    have hO4 := hO2.kept hF (by show ¬ g2 = D 1; omega)
    refine ⟨hr, hT, hF, hO4, ?_, ?_⟩
    · exact conv_any hO4.old
    · have hNw3 : Nw w w3 := Fr.then hDs.nw hF (fun k hk => .inr (by have := h.base.2 1 (by decide); omega))
      exact conv_any (Sl.later hx hNw3)
  have c0 : W2.cell? ⟨sb, 1, none⟩ = some (.pointer (some ⟨D 1, 0, none⟩)) := hDs.cell 1 _ rfl
  have hs1 : (str m).size = m.length := str_size m
  have hs2 : ({ data := #[1, 2, 3] } : ByteArray).size = 3 := rfl
  rw [show (m ++ [1#8, 2#8, 3#8]).length = m.length + 3 by simp] at hap2 hc2
  have HAP1 : Hid (∀ ty, (Builtin.append_ #[24, 24] ty #[.slice (some ⟨V.heap.size, 0, none⟩) 0 0, .slice xa m.length xc]).run Try.prog (V.alloc (.cells #[] 5)) = .ok v1 W1) := hap1
  have HAP2 : Hid (∀ ty, (Builtin.append_ #[24, 24] ty #[v1, .slice (some ⟨W1.heap.size, 0, none⟩) 3 3]).run Try.prog (W1.alloc (.cells #[.int .u8 1, .int .u8 2, .int .u8 3] 5)) = .ok (.slice (some ⟨g2, 0, none⟩) (m.length + 3) c2) W2) := hap2
  have hml : Hid (m.length ≤ 1048576) := by show _ ≤ _; omega
  have HX : Hid (Old w (.slice xa m.length xc) m) := hx
  have Hh : Hid (DInv w sb s o D T L V ∧ Nw V W2 ∧ V.heap.size ≤ g2 ∧ D 1 < V.heap.size ∧ sb < V.heap.size ∧ (L 1).length + m.length ≤ 1048576) := ⟨h, hN2, hg2', hDl, hsl, hl⟩
  clear hap1 hap2 hO1 hO2 hO3 hF1 hF2 hN1 hN2 hg1 hg2 hg1' hx hxV hDs h hl
  have hd : D 1 ≠ g2 := by omega
  generalize str (m ++ [1#8, 2#8, 3#8]) = SA at *
  generalize str m = SB at *
  obtain ⟨n, hn⟩ : ∃ n, n = m.length := ⟨_, rfl⟩
  rw [← hn] at HAP1 HAP2 HW hc2 hs1 HX hml ⊢
  have hnH : Hid (n = m.length) := hn
  clear hn
  have hz : (n : Int) ≤ (c2 : Int) := by omega
  have hn20 : n ≤ 1048576 := hml.out
  go_enter Try.func15, Try.ntmps15
  go_wp2_with (first
      | (at_builtin; refine Lib.wpList_append_run _ rfl _ _ 24 24 rfl (.slice (some ⟨V.heap.size, 0, none⟩) 0 0) (.slice xa n xc) (by simp [Act.eval]) (by simp [Act.eval]) _ _ (HAP1.out _) ?_)
      | (at_builtin; refine Lib.wpList_append_run _ rfl _ _ 24 24 rfl v1 (.slice (some ⟨W1.heap.size, 0, none⟩) 3 3) (by simp [Act.eval]) (by simp [Act.eval]) _ _ (HAP2.out _) ?_)
      | (go_at_call 20; with_reducible refine (HW.out).mono ?_; rintro e w3 ⟨⟨r3, rfl⟩, HT3, HF3, HO3, hcv1, hcv2⟩))
  have HI0 : Hid (∃ y, y.length = n + 3 ∧ Ow g2 (.slice (some ⟨g2, 0, none⟩) (n + 3) c2) y w3 ∧ Fr (fun k => k = g2) w3 w3) := ⟨_, by rw [hnH.out]; simp, HO3.out, Fr.refl _ _⟩
  clear hcv1 hcv2 hs1 hs2 HO3
  go_loopg [10] (n + 3) (fun kx t wr => ∃ (k : Nat) (z : Int), k ≤ n + 3 ∧ n + 3 - k ≤ kx ∧ t = .int .i64 z ∧ z = k ∧ Hid (∃ y, y.length = n + 3 ∧ Ow g2 (.slice (some ⟨g2, 0, none⟩) (n + 3) c2) y wr ∧ Fr (fun k => k = g2) w3 wr))
  case atStart => exact ⟨0, 0, Nat.zero_le _, Nat.le_refl _, rfl, rfl, HI0⟩
  case round =>
    obtain ⟨k, z, hk, hkx, rfl, hz', HI⟩ := hrel
    clear HI0
    by_cases hlt : k < n + 3
    · obtain ⟨y, hy, hO, hF⟩ := HI.out
      obtain ⟨p1, p2⟩ := hO.at k (by omega)
      have HN : Hid (∀ q, q = (238 : Int) → ∃ y, y.length = n + 3 ∧ Ow g2 (.slice (some ⟨g2, 0, none⟩) (n + 3) c2) y (wr.setCell ⟨g2, k, none⟩ (.int .u8 q)) ∧ Fr (fun k => k = g2) w3 (wr.setCell ⟨g2, k, none⟩ (.int .u8 q))) := fun q hq => ⟨y.set k 238#8, by simp [hy], hO.put k (by omega) 238#8 q hq, hF.setCell _ _ (.inl rfl)⟩
      clear HI hO hF
      have hx1 : z < (n : Int) + 3 := by omega
      have hx2 : 0 ≤ z := by omega
      have hx3 : z.toNat = k := by omega
      go_wp2_with fail
      all_goals go_roundg (n + 3 - (k + 1))
      all_goals (first | omega | exact ⟨k + 1, _, by omega, by omega, rfl, by omega, HN.out _ rfl⟩)
    · obtain rfl : k = n + 3 := by omega
      have hx1 : ¬ z < (n : Int) + 3 := by omega
      obtain ⟨hD, hN2, hg2l, hDl, hsl, hll⟩ := Hh.out
      obtain ⟨y, hy, hO, hF⟩ := HI.out
      obtain ⟨ta, tc, ht⟩ := (hD.own 1 (by decide)).slice
      have hwsz : V.heap.size ≤ wr.heap.size := Nat.le_trans hN2.size (Nat.le_trans HF3.out.size hF.size)
      have hFV : Fr (fun k => k = D 1) V wr := Fr.then (Fr.then hN2.any HF3.out (fun k hk => .inl hk)) hF (fun k hk => .inr (by omega))
      have hNwr : Nw w wr := Fr.then hD.nw hFV (fun k hk => .inr (by have := hD.base.2 1 (by decide); omega))
      have hTr : Took32 (D 1) (o.setWidth 32) (L 1 ++ m) wr := HT3.out.kept hF hd
      have hOw : Old wr (T 1) (L 1) := ((hD.own 1 (by decide)).kept hFV (fun g hg => .inr (.inl ⟨1, by decide, hg⟩))).old
      have hN6a : Nw wr (wr.alloc (.cells #[] 5)).drew := ((Fr.refl _ _).alloc _).drew
      obtain ⟨v6, g6, W6, hap6, hO6, hF6, hg6⟩ := app_any (wr.alloc (.cells #[] 5)).drew wr.heap.size _ [] ((Ow.empty wr).nw (Fr.refl _ _).drew) (T 1) (L 1) ((hOw.nw hN6a).mono (fun _ h => h.elim)) (by simp; omega)
      rw [List.nil_append] at hO6
      have hN6 : Nw wr W6 := Fr.then hN6a hF6 (fun k hk => .inr (by omega))
      have hg6' : wr.heap.size ≤ g6 := by
        rcases hg6 with h | h
        · omega
        · exact Nat.le_trans hN6a.size h
      have hxr : Old wr (.slice xa n xc) m := Sl.later HX.out hNwr
      obtain ⟨v7, g7, W7, hap7, hO7, hF7, hg7⟩ := app_any W6 g6 v6 (L 1) hO6 (.slice xa n xc) m ((hxr.nw hN6).mono (fun _ h => h.elim)) (by omega)
      have hN7 : Nw wr W7 := Fr.then hN6 hF7 (fun k hk => .inr (by omega))
      have hg7' : V.heap.size ≤ g7 := by
        have := hN6.size
        rcases hg7 with h | h <;> omega
      have hst7 : W7.heap[sb]? = some (.cells (scells s o D T) 36) := hN7.heap ((hFV.block sb hsl (fun e => hD.sbd 1 (by decide) e.symm)).trans hD.st)
      have hcW : wr.cell? ⟨sb, 5, none⟩ = some (.slice ta (L 1).length tc) := by
        rw [← ht]
        exact hFV.cellv (hD.cell 5 _ rfl) (fun e => hD.sbd 1 (by decide) e.symm)
      have hcA : (wr.alloc (.cells #[] 5)).cell? ⟨sb, 5, none⟩ = some (.slice ta (L 1).length tc) := Nw.cell ((Fr.refl _ _).alloc _) hcW
      have hc7 : W7.cell? ⟨sb, 5, none⟩ = some (.slice ta (L 1).length tc) := hN7.cell hcW
      have hf7 : W7.frozen? ⟨sb, 5, none⟩ = false := by simp [World.frozen?, hst7]
      have hFin : Hid (∃ t, DInv w sb s o D (upd T 1 t) (upd L 1 (L 1 ++ m)) (W7.setCell ⟨sb, 5, none⟩ v7)) := ⟨v7, hD.wrote 1 (by decide) W7 (hFV.then hN7 (fun _ h => h.elim)) _ (hTr.nw hN7) v7 (.inr ⟨g7, hg7', hO7⟩)⟩
      have hv7 : ∃ p q, v7 = .slice p (L 1 ++ m).length q := by
        obtain ⟨xs, h1, _⟩ := hO7
        exact ⟨_, _, h1⟩
      obtain ⟨p7, q7, hv7⟩ := hv7
      rw [hv7] at hap7 hFin
      have hne1 : ¬ sb = wr.heap.size := by omega
      have hne2 : ¬ wr.heap.size = sb := by omega
      have HAP6 : Hid _ := hap6
      have HAP7 : Hid _ := hap7
      have hq : Hid (SA.toList = (SB ++ { data := #[1, 2, 3] }).toList) := by show _ = _; rw [hstr.out]
      rw [ht] at HAP6
      clear hD hN2 hg2l hDl hsl hll hO hF HI hFV hNwr hTr hOw hN6a hap6 hO6 hF6 hg6 hN6 hg6' hxr hap7 hO7 hF7 hg7 hN7 hg7' hst7 hv7 hy HT3 HF3 Hh HX ht hstr
      generalize (L 1).length = tn at *
      generalize (L 1 ++ m).length = t7 at *
      go_wp2_with fail
      go_region_law (first
        | (refine step_append_run rfl _ _ rfl (.slice (some ⟨wr.heap.size, 0, none⟩) 0 0) (.slice ta tn tc) (by simp [Act.eval]) (by simp [Act.eval]) _ _ (HAP6.out) ?_)
        | (refine step_append_run rfl _ _ rfl v6 (.slice xa n xc) (by simp [Act.eval]) (by simp [Act.eval]) _ _ (HAP7.out) ?_))
      all_goals go_wp2_with fail
      all_goals go_ret
      all_goals exact ⟨by rw [hq.out]; simp, hFin.out⟩
set_option maxHeartbeats 40000000 in
set_option maxRecDepth 100000 in
theorem writes2 (w : World) (sb : Nat) (s o : BitVec 64) (D : Nat → Nat) (T : Nat → Value) (L : Nat → List By) (V : World) (h : DInv w sb s o D T L V) (xa : Option Addr) (xc : Nat) (m : List By) (hx : Old w (.slice xa m.length xc) m) (hl : (L 2).length + m.length ≤ 1048576) :
    Calls Try.prog 15 #[.pointer (some ⟨sb, 0, none⟩), .int .i64 2, .slice xa m.length xc] V fun e w' => e = .returned (.bool true) ∧ ∃ t, DInv w sb s o D (upd T 2 t) (upd L 2 (L 2 ++ m)) w' := by
  have hxV : Old V (.slice xa m.length xc) m := Sl.later hx h.nw
  obtain ⟨v1, g1, W1, hap1, hO1, hF1, hg1⟩ := app_any (V.alloc (.cells #[] 5)) V.heap.size _ [] (Ow.empty V) (.slice xa m.length xc) m ((hxV.nw ((Fr.refl _ _).alloc _)).mono (fun _ h => h.elim)) (by simp; omega)
  rw [List.nil_append] at hO1
  have hN1 : Nw V W1 := Fr.then ((Fr.refl _ _).alloc _) hF1 (fun i hi => .inr (by omega))
  have hg1' : V.heap.size ≤ g1 := by rcases hg1 with h | h; omega; simp at h; omega
  obtain ⟨v2, g2, W2, hap2, hO2, hF2, hg2⟩ := app_any (W1.alloc (.cells #[.int .u8 1, .int .u8 2, .int .u8 3] 5)) g1 v1 m (hO1.nw ((Fr.refl _ _).alloc _)) (.slice (some ⟨W1.heap.size, 0, none⟩) 3 3) [1#8, 2#8, 3#8] (one_two_three W1) (by simp; omega)
  have hN2 : Nw V W2 := Fr.then (hN1.alloc _) hF2 (fun i hi => .inr (by omega))
  have hg2' : V.heap.size ≤ g2 := by
    have := hN1.size
    rcases hg2 with h | h
    · omega
    · simp at h; omega
  obtain ⟨c2, rfl, hc2, hc2', hO3⟩ := hO2.cut m.length (by simp)
  rw [List.take_left] at hO3
  have hstr : Hid (str m ++ ({ data := #[1, 2, 3] } : ByteArray) = str (m ++ [1#8, 2#8, 3#8])) := by show _ = _; rw [← str_app]; rfl
  have hDs := h.nws hN2
  have hDl : D 2 < V.heap.size := (h.tk 2 (by decide)).lt
  have hsl : sb < V.heap.size := (Array.getElem?_eq_some_iff.1 h.st).1
  -- the write
  have HW : Hid (Calls Try.prog 21 #[.pointer (some ⟨D 2, 0, none⟩), .slice (some ⟨g2, 0, none⟩) m.length c2] W2 fun e w3 => (∃ r, e = .returned r) ∧ Hid (Took64 (D 2) s (L 2 ++ m) w3) ∧ Hid (Fr (fun k => k = D 2) W2 w3) ∧ Hid (Ow g2 (.slice (some ⟨g2, 0, none⟩) (m.length + 3) c2) (m ++ [1#8, 2#8, 3#8]) w3) ∧ (convert 24 9 (.slice (some ⟨g2, 0, none⟩) (m.length + 3) c2)).run Try.prog w3 = .ok (.string (str (m ++ [1#8, 2#8, 3#8]))) w3 ∧ (convert 24 9 (.slice xa m.length xc)).run Try.prog w3 = .ok (.string (str m)) w3) := by
    refine (write64_any (D 2) s (L 2) _ m W2 (hDs.tk 2 (by decide)) (.inr ⟨g2, by omega, hO3.slb⟩)).mono ?_
    rintro e w3 ⟨hr, hT, hF⟩
    rw [show (m ++ [1#8, 2#8, 3#8]).length = m.length + 3 by simp] at hO2
    have hO4 := hO2.kept hF (by show ¬ g2 = D 2; omega)
    refine ⟨hr, hT, hF, hO4, ?_, ?_⟩
    · exact conv_any hO4.old
    · have hNw3 : Nw w w3 := Fr.then hDs.nw hF (fun k hk => .inr (by have := h.base.2 2 (by decide); omega))
      exact conv_any (Sl.later hx hNw3)
  have c0 : W2.cell? ⟨sb, 2, none⟩ = some (.pointer (some ⟨D 2, 0, none⟩)) := hDs.cell 2 _ rfl
  have hs1 : (str m).size = m.length := str_size m
  have hs2 : ({ data := #[1, 2, 3] } : ByteArray).size = 3 := rfl
  rw [show (m ++ [1#8, 2#8, 3#8]).length = m.length + 3 by simp] at hap2 hc2
  have HAP1 : Hid (∀ ty, (Builtin.append_ #[24, 24] ty #[.slice (some ⟨V.heap.size, 0, none⟩) 0 0, .slice xa m.length xc]).run Try.prog (V.alloc (.cells #[] 5)) = .ok v1 W1) := hap1
  have HAP2 : Hid (∀ ty, (Builtin.append_ #[24, 24] ty #[v1, .slice (some ⟨W1.heap.size, 0, none⟩) 3 3]).run Try.prog (W1.alloc (.cells #[.int .u8 1, .int .u8 2, .int .u8 3] 5)) = .ok (.slice (some ⟨g2, 0, none⟩) (m.length + 3) c2) W2) := hap2
  have hml : Hid (m.length ≤ 1048576) := by show _ ≤ _; omega
  have HX : Hid (Old w (.slice xa m.length xc) m) := hx
  have Hh : Hid (DInv w sb s o D T L V ∧ Nw V W2 ∧ V.heap.size ≤ g2 ∧ D 2 < V.heap.size ∧ sb < V.heap.size ∧ (L 2).length + m.length ≤ 1048576) := ⟨h, hN2, hg2', hDl, hsl, hl⟩
  clear hap1 hap2 hO1 hO2 hO3 hF1 hF2 hN1 hN2 hg1 hg2 hg1' hx hxV hDs h hl
  have hd : D 2 ≠ g2 := by omega
  generalize str (m ++ [1#8, 2#8, 3#8]) = SA at *
  generalize str m = SB at *
  obtain ⟨n, hn⟩ : ∃ n, n = m.length := ⟨_, rfl⟩
  rw [← hn] at HAP1 HAP2 HW hc2 hs1 HX hml ⊢
  have hnH : Hid (n = m.length) := hn
  clear hn
  have hz : (n : Int) ≤ (c2 : Int) := by omega
  have hn20 : n ≤ 1048576 := hml.out
  go_enter Try.func15, Try.ntmps15
  go_wp2_with (first
      | (at_builtin; refine Lib.wpList_append_run _ rfl _ _ 24 24 rfl (.slice (some ⟨V.heap.size, 0, none⟩) 0 0) (.slice xa n xc) (by simp [Act.eval]) (by simp [Act.eval]) _ _ (HAP1.out _) ?_)
      | (at_builtin; refine Lib.wpList_append_run _ rfl _ _ 24 24 rfl v1 (.slice (some ⟨W1.heap.size, 0, none⟩) 3 3) (by simp [Act.eval]) (by simp [Act.eval]) _ _ (HAP2.out _) ?_)
      | (go_at_call 21; with_reducible refine (HW.out).mono ?_; rintro e w3 ⟨⟨r3, rfl⟩, HT3, HF3, HO3, hcv1, hcv2⟩))
  have HI0 : Hid (∃ y, y.length = n + 3 ∧ Ow g2 (.slice (some ⟨g2, 0, none⟩) (n + 3) c2) y w3 ∧ Fr (fun k => k = g2) w3 w3) := ⟨_, by rw [hnH.out]; simp, HO3.out, Fr.refl _ _⟩
  clear hcv1 hcv2 hs1 hs2 HO3
  go_loopg [10] (n + 3) (fun kx t wr => ∃ (k : Nat) (z : Int), k ≤ n + 3 ∧ n + 3 - k ≤ kx ∧ t = .int .i64 z ∧ z = k ∧ Hid (∃ y, y.length = n + 3 ∧ Ow g2 (.slice (some ⟨g2, 0, none⟩) (n + 3) c2) y wr ∧ Fr (fun k => k = g2) w3 wr))
  case atStart => exact ⟨0, 0, Nat.zero_le _, Nat.le_refl _, rfl, rfl, HI0⟩
  case round =>
    obtain ⟨k, z, hk, hkx, rfl, hz', HI⟩ := hrel
    clear HI0
    by_cases hlt : k < n + 3
    · obtain ⟨y, hy, hO, hF⟩ := HI.out
      obtain ⟨p1, p2⟩ := hO.at k (by omega)
      have HN : Hid (∀ q, q = (238 : Int) → ∃ y, y.length = n + 3 ∧ Ow g2 (.slice (some ⟨g2, 0, none⟩) (n + 3) c2) y (wr.setCell ⟨g2, k, none⟩ (.int .u8 q)) ∧ Fr (fun k => k = g2) w3 (wr.setCell ⟨g2, k, none⟩ (.int .u8 q))) := fun q hq => ⟨y.set k 238#8, by simp [hy], hO.put k (by omega) 238#8 q hq, hF.setCell _ _ (.inl rfl)⟩
      clear HI hO hF
      have hx1 : z < (n : Int) + 3 := by omega
      have hx2 : 0 ≤ z := by omega
      have hx3 : z.toNat = k := by omega
      go_wp2_with fail
      all_goals go_roundg (n + 3 - (k + 1))
      all_goals (first | omega | exact ⟨k + 1, _, by omega, by omega, rfl, by omega, HN.out _ rfl⟩)
    · obtain rfl : k = n + 3 := by omega
      have hx1 : ¬ z < (n : Int) + 3 := by omega
      obtain ⟨hD, hN2, hg2l, hDl, hsl, hll⟩ := Hh.out
      obtain ⟨y, hy, hO, hF⟩ := HI.out
      obtain ⟨ta, tc, ht⟩ := (hD.own 2 (by decide)).slice
      have hwsz : V.heap.size ≤ wr.heap.size := Nat.le_trans hN2.size (Nat.le_trans HF3.out.size hF.size)
      have hFV : Fr (fun k => k = D 2) V wr := Fr.then (Fr.then hN2.any HF3.out (fun k hk => .inl hk)) hF (fun k hk => .inr (by omega))
      have hNwr : Nw w wr := Fr.then hD.nw hFV (fun k hk => .inr (by have := hD.base.2 2 (by decide); omega))
      have hTr : Took64 (D 2) s (L 2 ++ m) wr := HT3.out.kept hF hd
      have hOw : Old wr (T 2) (L 2) := ((hD.own 2 (by decide)).kept hFV (fun g hg => .inr (.inl ⟨2, by decide, hg⟩))).old
      have hN6a : Nw wr (wr.alloc (.cells #[] 5)).drew := ((Fr.refl _ _).alloc _).drew
      obtain ⟨v6, g6, W6, hap6, hO6, hF6, hg6⟩ := app_any (wr.alloc (.cells #[] 5)).drew wr.heap.size _ [] ((Ow.empty wr).nw (Fr.refl _ _).drew) (T 2) (L 2) ((hOw.nw hN6a).mono (fun _ h => h.elim)) (by simp; omega)
      rw [List.nil_append] at hO6
      have hN6 : Nw wr W6 := Fr.then hN6a hF6 (fun k hk => .inr (by omega))
      have hg6' : wr.heap.size ≤ g6 := by
        rcases hg6 with h | h
        · omega
        · exact Nat.le_trans hN6a.size h
      have hxr : Old wr (.slice xa n xc) m := Sl.later HX.out hNwr
      obtain ⟨v7, g7, W7, hap7, hO7, hF7, hg7⟩ := app_any W6 g6 v6 (L 2) hO6 (.slice xa n xc) m ((hxr.nw hN6).mono (fun _ h => h.elim)) (by omega)
      have hN7 : Nw wr W7 := Fr.then hN6 hF7 (fun k hk => .inr (by omega))
      have hg7' : V.heap.size ≤ g7 := by
        have := hN6.size
        rcases hg7 with h | h <;> omega
      have hst7 : W7.heap[sb]? = some (.cells (scells s o D T) 36) := hN7.heap ((hFV.block sb hsl (fun e => hD.sbd 2 (by decide) e.symm)).trans hD.st)
      have hcW : wr.cell? ⟨sb, 6, none⟩ = some (.slice ta (L 2).length tc) := by
        rw [← ht]
        exact hFV.cellv (hD.cell 6 _ rfl) (fun e => hD.sbd 2 (by decide) e.symm)
      have hcA : (wr.alloc (.cells #[] 5)).cell? ⟨sb, 6, none⟩ = some (.slice ta (L 2).length tc) := Nw.cell ((Fr.refl _ _).alloc _) hcW
      have hc7 : W7.cell? ⟨sb, 6, none⟩ = some (.slice ta (L 2).length tc) := hN7.cell hcW
      have hf7 : W7.frozen? ⟨sb, 6, none⟩ = false := by simp [World.frozen?, hst7]
      have hFin : Hid (∃ t, DInv w sb s o D (upd T 2 t) (upd L 2 (L 2 ++ m)) (W7.setCell ⟨sb, 6, none⟩ v7)) := ⟨v7, hD.wrote 2 (by decide) W7 (hFV.then hN7 (fun _ h => h.elim)) _ (hTr.nw hN7) v7 (.inr ⟨g7, hg7', hO7⟩)⟩
      have hv7 : ∃ p q, v7 = .slice p (L 2 ++ m).length q := by
        obtain ⟨xs, h1, _⟩ := hO7
        exact ⟨_, _, h1⟩
      obtain ⟨p7, q7, hv7⟩ := hv7
      rw [hv7] at hap7 hFin
      have hne1 : ¬ sb = wr.heap.size := by omega
      have hne2 : ¬ wr.heap.size = sb := by omega
      have HAP6 : Hid _ := hap6
      have HAP7 : Hid _ := hap7
      have hq : Hid (SA.toList = (SB ++ { data := #[1, 2, 3] }).toList) := by show _ = _; rw [hstr.out]
      rw [ht] at HAP6
      clear hD hN2 hg2l hDl hsl hll hO hF HI hFV hNwr hTr hOw hN6a hap6 hO6 hF6 hg6 hN6 hg6' hxr hap7 hO7 hF7 hg7 hN7 hg7' hst7 hv7 hy HT3 HF3 Hh HX ht hstr
      generalize (L 2).length = tn at *
      generalize (L 2 ++ m).length = t7 at *
      go_wp2_with fail
      go_region_law (first
        | (refine step_append_run rfl _ _ rfl (.slice (some ⟨wr.heap.size, 0, none⟩) 0 0) (.slice ta tn tc) (by simp [Act.eval]) (by simp [Act.eval]) _ _ (HAP6.out) ?_)
        | (refine step_append_run rfl _ _ rfl v6 (.slice xa n xc) (by simp [Act.eval]) (by simp [Act.eval]) _ _ (HAP7.out) ?_))
      all_goals go_wp2_with fail
      all_goals go_ret
      all_goals exact ⟨by rw [hq.out]; simp, hFin.out⟩
set_option maxHeartbeats 40000000 in
set_option maxRecDepth 100000 in
theorem writes3 (w : World) (sb : Nat) (s o : BitVec 64) (D : Nat → Nat) (T : Nat → Value) (L : Nat → List By) (V : World) (h : DInv w sb s o D T L V) (xa : Option Addr) (xc : Nat) (m : List By) (hx : Old w (.slice xa m.length xc) m) (hl : (L 3).length + m.length ≤ 1048576) :
    Calls Try.prog 15 #[.pointer (some ⟨sb, 0, none⟩), .int .i64 3, .slice xa m.length xc] V fun e w' => e = .returned (.bool true) ∧ ∃ t, DInv w sb s o D (upd T 3 t) (upd L 3 (L 3 ++ m)) w' := by
  have hxV : Old V (.slice xa m.length xc) m := Sl.later hx h.nw
  obtain ⟨v1, g1, W1, hap1, hO1, hF1, hg1⟩ := app_any (V.alloc (.cells #[] 5)) V.heap.size _ [] (Ow.empty V) (.slice xa m.length xc) m ((hxV.nw ((Fr.refl _ _).alloc _)).mono (fun _ h => h.elim)) (by simp; omega)
  rw [List.nil_append] at hO1
  have hN1 : Nw V W1 := Fr.then ((Fr.refl _ _).alloc _) hF1 (fun i hi => .inr (by omega))
  have hg1' : V.heap.size ≤ g1 := by rcases hg1 with h | h; omega; simp at h; omega
  obtain ⟨v2, g2, W2, hap2, hO2, hF2, hg2⟩ := app_any (W1.alloc (.cells #[.int .u8 1, .int .u8 2, .int .u8 3] 5)) g1 v1 m (hO1.nw ((Fr.refl _ _).alloc _)) (.slice (some ⟨W1.heap.size, 0, none⟩) 3 3) [1#8, 2#8, 3#8] (one_two_three W1) (by simp; omega)
  have hN2 : Nw V W2 := Fr.then (hN1.alloc _) hF2 (fun i hi => .inr (by omega))
  have hg2' : V.heap.size ≤ g2 := by
    have := hN1.size
    rcases hg2 with h | h
    · omega
    · simp at h; omega
  obtain ⟨c2, rfl, hc2, hc2', hO3⟩ := hO2.cut m.length (by simp)
  rw [List.take_left] at hO3
  have hstr : Hid (str m ++ ({ data := #[1, 2, 3] } : ByteArray) = str (m ++ [1#8, 2#8, 3#8])) := by show _ = _; rw [← str_app]; rfl
  have hDs := h.nws hN2
  have hDl : D 3 < V.heap.size := (h.tk 3 (by decide)).lt
  have hsl : sb < V.heap.size := (Array.getElem?_eq_some_iff.1 h.st).1
  -- the write
  have HW : Hid (Calls Try.prog 21 #[.pointer (some ⟨D 3, 0, none⟩), .slice (some ⟨g2, 0, none⟩) m.length c2] W2 fun e w3 => (∃ r, e = .returned r) ∧ Hid (Took64 (D 3) o (L 3 ++ m) w3) ∧ Hid (Fr (fun k => k = D 3) W2 w3) ∧ Hid (Ow g2 (.slice (some ⟨g2, 0, none⟩) (m.length + 3) c2) (m ++ [1#8, 2#8, 3#8]) w3) ∧ (convert 24 9 (.slice (some ⟨g2, 0, none⟩) (m.length + 3) c2)).run Try.prog w3 = .ok (.string (str (m ++ [1#8, 2#8, 3#8]))) w3 ∧ (convert 24 9 (.slice xa m.length xc)).run Try.prog w3 = .ok (.string (str m)) w3) := by
    refine (write64_any (D 3) o (L 3) _ m W2 (hDs.tk 3 (by decide)) (.inr ⟨g2, by omega, hO3.slb⟩)).mono ?_
    rintro e w3 ⟨hr, hT, hF⟩
    rw [show (m ++ [1#8, 2#8, 3#8]).length = m.length + 3 by simp] at hO2
    have hO4 := hO2.kept hF (by show ¬ g2 = D 3; omega)
    refine ⟨hr, hT, hF, hO4, ?_, ?_⟩
    · exact conv_any hO4.old
    · have hNw3 : Nw w w3 := Fr.then hDs.nw hF (fun k hk => .inr (by have := h.base.2 3 (by decide); omega))
      exact conv_any (Sl.later hx hNw3)
  have c0 : W2.cell? ⟨sb, 3, none⟩ = some (.pointer (some ⟨D 3, 0, none⟩)) := hDs.cell 3 _ rfl
  have hs1 : (str m).size = m.length := str_size m
  have hs2 : ({ data := #[1, 2, 3] } : ByteArray).size = 3 := rfl
  rw [show (m ++ [1#8, 2#8, 3#8]).length = m.length + 3 by simp] at hap2 hc2
  have HAP1 : Hid (∀ ty, (Builtin.append_ #[24, 24] ty #[.slice (some ⟨V.heap.size, 0, none⟩) 0 0, .slice xa m.length xc]).run Try.prog (V.alloc (.cells #[] 5)) = .ok v1 W1) := hap1
  have HAP2 : Hid (∀ ty, (Builtin.append_ #[24, 24] ty #[v1, .slice (some ⟨W1.heap.size, 0, none⟩) 3 3]).run Try.prog (W1.alloc (.cells #[.int .u8 1, .int .u8 2, .int .u8 3] 5)) = .ok (.slice (some ⟨g2, 0, none⟩) (m.length + 3) c2) W2) := hap2
  have hml : Hid (m.length ≤ 1048576) := by show _ ≤ _; omega
  have HX : Hid (Old w (.slice xa m.length xc) m) := hx
  have Hh : Hid (DInv w sb s o D T L V ∧ Nw V W2 ∧ V.heap.size ≤ g2 ∧ D 3 < V.heap.size ∧ sb < V.heap.size ∧ (L 3).length + m.length ≤ 1048576) := ⟨h, hN2, hg2', hDl, hsl, hl⟩
  clear hap1 hap2 hO1 hO2 hO3 hF1 hF2 hN1 hN2 hg1 hg2 hg1' hx hxV hDs h hl
  have hd : D 3 ≠ g2 := by omega
  generalize str (m ++ [1#8, 2#8, 3#8]) = SA at *
  generalize str m = SB at *
  obtain ⟨n, hn⟩ : ∃ n, n = m.length := ⟨_, rfl⟩
  rw [← hn] at HAP1 HAP2 HW hc2 hs1 HX hml ⊢
  have hnH : Hid (n = m.length) := hn
  clear hn
  have hz : (n : Int) ≤ (c2 : Int) := by omega
  have hn20 : n ≤ 1048576 := hml.out
  go_enter Try.func15, Try.ntmps15
  go_wp2_with (first
      | (at_builtin; refine Lib.wpList_append_run _ rfl _ _ 24 24 rfl (.slice (some ⟨V.heap.size, 0, none⟩) 0 0) (.slice xa n xc) (by simp [Act.eval]) (by simp [Act.eval]) _ _ (HAP1.out _) ?_)
      | (at_builtin; refine Lib.wpList_append_run _ rfl _ _ 24 24 rfl v1 (.slice (some ⟨W1.heap.size, 0, none⟩) 3 3) (by simp [Act.eval]) (by simp [Act.eval]) _ _ (HAP2.out _) ?_)
      | (go_at_call 21; with_reducible refine (HW.out).mono ?_; rintro e w3 ⟨⟨r3, rfl⟩, HT3, HF3, HO3, hcv1, hcv2⟩))
  have HI0 : Hid (∃ y, y.length = n + 3 ∧ Ow g2 (.slice (some ⟨g2, 0, none⟩) (n + 3) c2) y w3 ∧ Fr (fun k => k = g2) w3 w3) := ⟨_, by rw [hnH.out]; simp, HO3.out, Fr.refl _ _⟩
  clear hcv1 hcv2 hs1 hs2 HO3
  go_loopg [10] (n + 3) (fun kx t wr => ∃ (k : Nat) (z : Int), k ≤ n + 3 ∧ n + 3 - k ≤ kx ∧ t = .int .i64 z ∧ z = k ∧ Hid (∃ y, y.length = n + 3 ∧ Ow g2 (.slice (some ⟨g2, 0, none⟩) (n + 3) c2) y wr ∧ Fr (fun k => k = g2) w3 wr))
  case atStart => exact ⟨0, 0, Nat.zero_le _, Nat.le_refl _, rfl, rfl, HI0⟩
  case round =>
    obtain ⟨k, z, hk, hkx, rfl, hz', HI⟩ := hrel
    clear HI0
    by_cases hlt : k < n + 3
    · obtain ⟨y, hy, hO, hF⟩ := HI.out
      obtain ⟨p1, p2⟩ := hO.at k (by omega)
      have HN : Hid (∀ q, q = (238 : Int) → ∃ y, y.length = n + 3 ∧ Ow g2 (.slice (some ⟨g2, 0, none⟩) (n + 3) c2) y (wr.setCell ⟨g2, k, none⟩ (.int .u8 q)) ∧ Fr (fun k => k = g2) w3 (wr.setCell ⟨g2, k, none⟩ (.int .u8 q))) := fun q hq => ⟨y.set k 238#8, by simp [hy], hO.put k (by omega) 238#8 q hq, hF.setCell _ _ (.inl rfl)⟩
      clear HI hO hF
      have hx1 : z < (n : Int) + 3 := by omega
      have hx2 : 0 ≤ z := by omega
      have hx3 : z.toNat = k := by omega
      go_wp2_with fail
      all_goals go_roundg (n + 3 - (k + 1))
      all_goals (first | omega | exact ⟨k + 1, _, by omega, by omega, rfl, by omega, HN.out _ rfl⟩)
    · obtain rfl : k = n + 3 := by omega
      have hx1 : ¬ z < (n : Int) + 3 := by omega
      obtain ⟨hD, hN2, hg2l, hDl, hsl, hll⟩ := Hh.out
      obtain ⟨y, hy, hO, hF⟩ := HI.out
      obtain ⟨ta, tc, ht⟩ := (hD.own 3 (by decide)).slice
      have hwsz : V.heap.size ≤ wr.heap.size := Nat.le_trans hN2.size (Nat.le_trans HF3.out.size hF.size)
      have hFV : Fr (fun k => k = D 3) V wr := Fr.then (Fr.then hN2.any HF3.out (fun k hk => .inl hk)) hF (fun k hk => .inr (by omega))
      have hNwr : Nw w wr := Fr.then hD.nw hFV (fun k hk => .inr (by have := hD.base.2 3 (by decide); omega))
      have hTr : Took64 (D 3) o (L 3 ++ m) wr := HT3.out.kept hF hd
      have hOw : Old wr (T 3) (L 3) := ((hD.own 3 (by decide)).kept hFV (fun g hg => .inr (.inl ⟨3, by decide, hg⟩))).old
      have hN6a : Nw wr (wr.alloc (.cells #[] 5)).drew := ((Fr.refl _ _).alloc _).drew
      obtain ⟨v6, g6, W6, hap6, hO6, hF6, hg6⟩ := app_any (wr.alloc (.cells #[] 5)).drew wr.heap.size _ [] ((Ow.empty wr).nw (Fr.refl _ _).drew) (T 3) (L 3) ((hOw.nw hN6a).mono (fun _ h => h.elim)) (by simp; omega)
      rw [List.nil_append] at hO6
      have hN6 : Nw wr W6 := Fr.then hN6a hF6 (fun k hk => .inr (by omega))
      have hg6' : wr.heap.size ≤ g6 := by
        rcases hg6 with h | h
        · omega
        · exact Nat.le_trans hN6a.size h
      have hxr : Old wr (.slice xa n xc) m := Sl.later HX.out hNwr
      obtain ⟨v7, g7, W7, hap7, hO7, hF7, hg7⟩ := app_any W6 g6 v6 (L 3) hO6 (.slice xa n xc) m ((hxr.nw hN6).mono (fun _ h => h.elim)) (by omega)
      have hN7 : Nw wr W7 := Fr.then hN6 hF7 (fun k hk => .inr (by omega))
      have hg7' : V.heap.size ≤ g7 := by
        have := hN6.size
        rcases hg7 with h | h <;> omega
      have hst7 : W7.heap[sb]? = some (.cells (scells s o D T) 36) := hN7.heap ((hFV.block sb hsl (fun e => hD.sbd 3 (by decide) e.symm)).trans hD.st)
      have hcW : wr.cell? ⟨sb, 7, none⟩ = some (.slice ta (L 3).length tc) := by
        rw [← ht]
        exact hFV.cellv (hD.cell 7 _ rfl) (fun e => hD.sbd 3 (by decide) e.symm)
      have hcA : (wr.alloc (.cells #[] 5)).cell? ⟨sb, 7, none⟩ = some (.slice ta (L 3).length tc) := Nw.cell ((Fr.refl _ _).alloc _) hcW
      have hc7 : W7.cell? ⟨sb, 7, none⟩ = some (.slice ta (L 3).length tc) := hN7.cell hcW
      have hf7 : W7.frozen? ⟨sb, 7, none⟩ = false := by simp [World.frozen?, hst7]
      have hFin : Hid (∃ t, DInv w sb s o D (upd T 3 t) (upd L 3 (L 3 ++ m)) (W7.setCell ⟨sb, 7, none⟩ v7)) := ⟨v7, hD.wrote 3 (by decide) W7 (hFV.then hN7 (fun _ h => h.elim)) _ (hTr.nw hN7) v7 (.inr ⟨g7, hg7', hO7⟩)⟩
      have hv7 : ∃ p q, v7 = .slice p (L 3 ++ m).length q := by
        obtain ⟨xs, h1, _⟩ := hO7
        exact ⟨_, _, h1⟩
      obtain ⟨p7, q7, hv7⟩ := hv7
      rw [hv7] at hap7 hFin
      have hne1 : ¬ sb = wr.heap.size := by omega
      have hne2 : ¬ wr.heap.size = sb := by omega
      have HAP6 : Hid _ := hap6
      have HAP7 : Hid _ := hap7
      have hq : Hid (SA.toList = (SB ++ { data := #[1, 2, 3] }).toList) := by show _ = _; rw [hstr.out]
      rw [ht] at HAP6
      clear hD hN2 hg2l hDl hsl hll hO hF HI hFV hNwr hTr hOw hN6a hap6 hO6 hF6 hg6 hN6 hg6' hxr hap7 hO7 hF7 hg7 hN7 hg7' hst7 hv7 hy HT3 HF3 Hh HX ht hstr
      generalize (L 3).length = tn at *
      generalize (L 3 ++ m).length = t7 at *
      go_wp2_with fail
      go_region_law (first
        | (refine step_append_run rfl _ _ rfl (.slice (some ⟨wr.heap.size, 0, none⟩) 0 0) (.slice ta tn tc) (by simp [Act.eval]) (by simp [Act.eval]) _ _ (HAP6.out) ?_)
        | (refine step_append_run rfl _ _ rfl v6 (.slice xa n xc) (by simp [Act.eval]) (by simp [Act.eval]) _ _ (HAP7.out) ?_))
      all_goals go_wp2_with fail
      all_goals go_ret
      all_goals exact ⟨by rw [hq.out]; simp, hFin.out⟩
end Go.Proofs.Ytlfcgldbgejfbaa
