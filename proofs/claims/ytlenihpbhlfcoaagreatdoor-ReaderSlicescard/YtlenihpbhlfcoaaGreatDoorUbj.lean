import Derived.Test.YtlenihpbhlfcoaaGreatDoorUbi
set_option maxHeartbeats 8000000
set_option maxRecDepth 100000
set_option linter.unusedSimpArgs false
set_option linter.unusedVariables false
namespace Go.Proofs.YtlenihpbhlfcoaaGreatDoor
open Go.RowKit
def SrA (w : World) (d : List By) (l : List Rg) (s : Int) (e : Ending) (V : World) : Prop :=
 (¬ (vld l s = true ∧ hld l ≤ d.length) ∧ e = .returned (.tuple #[.slice none 0 0, .int .i64 1]) ∧ Nw w V) ∨
 (vld l s = true ∧ hld l ≤ d.length ∧ ∃ a m c, e = .returned (.tuple #[.slice a m c, .int .i64 (if okS (d.drop (d.length - (hld l).toNat)) l s then 0 else 1)]) ∧ Hid (Nw w V ∧ NewB w (.slice a m c) (if okS (d.drop (d.length - (hld l).toNat)) l s then sprd (d.drop (d.length - (hld l).toNat)) l s else []) V))
theorem wrapK (K : Nat) (h : K ≤ 140737488351232) : wrap64 (K : Int) = (K : Int) := by unfold wrap64; omega
theorem wrapI (K : Nat) (h : K ≤ 140737488351232) : IntKind.i64.wrap (K : Int) = (K : Int) := by rw [IntKind.wrap_i64]; omega
theorem wrapZ (n H : Nat) (h1 : n ≤ 140737488351232) (h2 : H ≤ 9223372036854775807) : wrap64 ((n : Int) - (H : Int)) = (n : Int) - (H : Int) := by unfold wrap64; omega
theorem subK (n H K : Nat) (h : n - H = K) (h2 : H ≤ n) : (n : Int) - (H : Int) = (K : Int) ∧ ¬ (K : Int) < 0 ∧ (K : Int) ≤ (n : Int) ∧ K ≤ n := by omega
theorem subZ (n H : Nat) (h2 : ¬ H ≤ n) : (n : Int) - (H : Int) < 0 := by omega
theorem hldN {z s : Int} (h : 0 ≤ z ∧ z ≤ z ∧ z ≤ s) (hs : s ≤ 9223372036854775807) : ∃ H : Nat, (H : Int) = z ∧ z.toNat = H ∧ H ≤ 9223372036854775807 := ⟨z.toNat, by omega, rfl, by omega⟩
theorem qspread_any {X : Nat → Prop} (w : World) (a : Option Addr) (n c : Nat) (d : List By) (hd : Old w (.slice a n c) d) (hn : n ≤ 140737488351232) (CI : Array Value) (aM : Option Addr) (mM cM : Nat) (l : List Rg) (s : Int) (i20 : CI[20]? = some (.slice aM mM cM)) (i10 : CI[10]? = some (.int .i64 s)) (hM : SlR RG X (.slice aM mM cM) l w) (hs : -9223372036854775808 ≤ s ∧ s ≤ 9223372036854775807) : Calls Tryz.prog 17 #[.slice a n c, .agg CI] w (SrA w d l s) := by
 refine asP fun P hP => ?_
 obtain ⟨hdl, hnc, hc2, hform⟩ := Old.caps hd;obtain ⟨ib, hib⟩ : ∃ ib, w.heap.size = ib := ⟨_, rfl⟩;obtain ⟨W0, hW0⟩ : ∃ W0, w.alloc (.cells CI 36) = W0 := ⟨_, rfl⟩;have hN0 : Nw w W0 := by rw [← hW0]; exact (Fr.refl _ _).alloc _
 have ri : W0.heap[ib]? = some (.cells CI 36) := by rw [← hW0, ← hib]; exact newHeap _ _
 have HC : Hid (∀ V, Nw W0 V → V.cell? ⟨ib, 20, none⟩ = some (.slice aM mM cM) ∧ V.cell? ⟨ib, 10, none⟩ = some (.int .i64 s)) := fun V hV => ⟨Nw.cell hV (cell_of ri 20 _ i20), Nw.cell hV (cell_of ri 10 _ i10)⟩
 obtain ⟨x20, x10⟩ := HC.out W0 (Fr.refl _ _);have HV : Hid (∀ V, Nw w V → Calls Tryz.prog 22 #[.slice aM mM cM, .int .i64 s] V fun e w' => e = .returned (.bool (vld l s)) ∧ Hid (Nw V w')) := fun V hV => valid_any V aM mM cM l (hM.nw hV) s
 have HN0 := tHid hN0;have HW0 := tHid hW0;cases hv : vld l s with
 | false =>
  have HF : Hid (∀ V, Nw w V → P (.returned (.tuple #[.slice none 0 0, .int .i64 1])) V) := fun V hV => by rw [hP]; exact .inl ⟨(fun h => by rw [hv] at h; cases h.1), rfl, hV⟩
  rw [hv] at HV;clear hP hd hN0 hW0 ri hv hform hM hs hn hnc hc2 hdl;go_enter Tryz.func17, Tryz.ntmps17;go_upto_region 1 with fail;rw [HW0.out]
  go_wp2_with (first | (go_at_call 22; with_reducible refine (HV.out _ HN0.out).mono ?_; rintro e w2 ⟨rfl, K2⟩))
  exact HF.out _ (HN0.out.trans K2.out)
 | true =>
  rw [hv] at HV;have hv2 := hv;unfold vld at hv2;rw [Bool.and_eq_true, Bool.and_eq_true, decide_eq_true_iff, decide_eq_true_iff] at hv2;obtain ⟨hs0, _, hve⟩ := hv2;have hhb := hld_part hve hs0 l.length;have HB : Hid (∀ V, Nw w V → Calls Tryz.prog 23 #[.slice aM mM cM] V fun e w' => e = .returned (.int .i64 (hld l)) ∧ Hid (Nw V w')) := fun V hV => qbytesOf_any V aM mM cM l (hM.nw hV) s ⟨hs0, hs.2⟩ hve
  rw [List.take_length] at hhb;obtain ⟨H, hH, hHt, hHm⟩ := hldN ⟨hhb.1, Int.le_refl _, hhb.2.2⟩ hs.2;rw [← hH] at HB;by_cases hle : hld l ≤ d.length
  ·have hHn : H ≤ n := by rw [← hH, hdl] at hle; exact Int.ofNat_le.1 hle
   obtain ⟨K, hK⟩ : ∃ K, n - H = K := ⟨_, rfl⟩;obtain ⟨d1, d2, d3, d4⟩ := subK n H K hK hHn;have kw := wrapK K (Nat.le_trans d4 hn);have kw2 := wrapI K (Nat.le_trans d4 hn);obtain ⟨B, hB⟩ : ∃ B, okS (d.drop K) l s = B := ⟨_, rfl⟩;have eK : d.length - (hld l).toNat = K := by rw [hHt, hdl]; exact hK
   have hdk : (d.drop K).length = n - K := by rw [List.length_drop, hdl]
   have HF : Hid (∀ V a m c, Nw w V → NewB w (.slice a m c) (if B then sprd (d.drop K) l s else []) V → P (.returned (.tuple #[.slice a m c, .int .i64 (if B then 0 else 1)])) V) := fun V a m c hV hb => by
    rw [hP]; refine .inr ⟨hv, hle, a, m, c, ?_, ?_⟩
    ·rw [eK, hB]
    ·rw [eK, hB]; exact ⟨hV, hb⟩
   have HSQ : Hid (∀ V a2 c2, Nw w V → Old V (.slice a2 (n - K) c2) (d.drop K) → Calls Tryz.prog 24 #[.slice a2 (n - K) c2, .slice aM mM cM, .int .i64 s] V fun e w' => ∃ a5 m5 c5, e = .returned (.tuple #[.slice a5 m5 c5, .int .i64 (if B then 0 else 1)]) ∧ Hid (Nw V w' ∧ NewB w (.slice a5 m5 c5) (if B then sprd (d.drop K) l s else []) w')) := fun V a2 c2 hV ho => by
    have t := spread_any V a2 (n - K) c2 (d.drop K) ho (Nat.le_trans (Nat.sub_le _ _) hn) aM mM cM l (hM.nw hV) s hs;unfold SpA at t;rw [hB] at t;refine t.mono ?_;rintro e w' ⟨a5, m5, c5, e5, k5⟩;refine ⟨a5, m5, c5, e5, k5.out.1, ?_⟩;obtain h1 | ⟨g, h1, h2⟩ := k5.out.2
    ·exact .inl h1
    ·exact .inr ⟨g, (fun h => h1 (Nat.lt_of_lt_of_le h hV.size)), h2⟩
   generalize (if B then (0 : Int) else 1) = EB at *;have HN2 := tHid hN0;by_cases hcp : c = K
   ·have hcq := hcp.symm;subst hcq;have e0 : n - K = 0 := Nat.sub_eq_zero_of_le hnc;have HSX : Hid (∀ V, Nw W0 V → Calls Tryz.prog 24 #[.slice a (n - K) 0, .slice aM mM cM, .int .i64 s] V fun e w' => ∃ a5 m5 c5, e = .returned (.tuple #[.slice a5 m5 c5, .int .i64 EB]) ∧ Hid ((w'.cell? ⟨ib, 20, none⟩ = some (.slice aM mM cM) ∧ w'.cell? ⟨ib, 10, none⟩ = some (.int .i64 s)) ∧ Nw V w' ∧ NewB w (.slice a5 m5 c5) (if B then sprd (d.drop K) l s else []) w')) := fun V hV => by
     have t := HSQ.out V a 0 (hN0.trans hV) (by rw [e0]; exact .inl ⟨a, rfl, List.eq_nil_of_length_eq_zero (by rw [hdk]; exact e0)⟩);exact t.mono (fun e w' q => by obtain ⟨a5, m5, c5, q1, q2⟩ := q; exact ⟨a5, m5, c5, q1, HC.out w' (hV.trans q2.out.1), q2.out.1, q2.out.2⟩)
    clear hP hd hN0 hW0 ri hv hform hM hhb hve hH hHt hle hdl hs hnc hc2 hs0 hHn hHm hB eK hdk HSQ hK hn d4 HN2 e0;go_enter Tryz.func17, Tryz.ntmps17;go_upto_region 1 with fail;rw [HW0.out];go_upto_region 3 with (first
     | (go_at_call 22; with_reducible refine (HV.out _ HN0.out).mono ?_; rintro e w2 ⟨rfl, K2⟩))
    obtain ⟨y20, y10⟩ := HC.out w2 K2.out;go_upto_region 6 with (first
     | (go_at_call 23; with_reducible refine (HB.out _ (HN0.out.trans K2.out)).mono ?_; rintro e w3 ⟨rfl, K3⟩))
    have n3 := K2.out.trans K3.out;have HS6 := tHid (HC.out w3.drew n3.drew);refine wp_region_held_drew (S := fun U => U.cell? ⟨ib, 20, none⟩ = some (.slice aM mM cM) ∧ U.cell? ⟨ib, 10, none⟩ = some (.int .i64 s)) (by kernel_rfl) HS6.out (fun hHeld => ?_);refine tkH (i := 0) (oi := ⟨some 22, .move (.tmp 0), 22, "content.go:40", #[], none⟩) (v := ?_) rfl ?_ ?_;rotate_left
    ·intro U hSw; obtain ⟨hSw0, hSw1⟩ := hSw; (go_simp <;> with_reducible rfl)
    try simp only [Act.put, nz1, nz2, nz3]
    refine tkH (i := 1) (oi := ⟨some 23, .move (.tmp 6), 2, "content.go:40", #[], none⟩) (v := ?_) rfl ?_ ?_;rotate_left
    ·intro U hSw; obtain ⟨hSw0, hSw1⟩ := hSw; (go_simp <;> with_reducible rfl)
    try simp only [Act.put, nz1, nz2, nz3]
    refine tkH (i := 2) (oi := ⟨some 24, .slice 22 (.tmp 22) (some (.tmp 23)) none none, 22, "content.go:40", #[⟨0, .data⟩, ⟨1, .data⟩], none⟩) (v := ?_) rfl ?_ ?_;rotate_left
    ·intro U hSw; obtain ⟨hSw0, hSw1⟩ := hSw; (go_simp <;> with_reducible rfl)
    try simp only [Act.put, nz1, nz2, nz3]
    refine tkH (i := 3) (oi := ⟨some 25, .fieldAddr 36 (.tmp 3) 9, 0, "content.go:40", #[], none⟩) (v := ?_) rfl ?_ ?_;rotate_left
    ·intro U hSw; obtain ⟨hSw0, hSw1⟩ := hSw; (go_simp <;> with_reducible rfl)
    try simp only [Act.put, nz1, nz2, nz3]
    refine tkH (i := 4) (oi := ⟨some 26, .load 33 (.tmp 25), 33, "content.go:40", #[⟨3, .data⟩], none⟩) (v := ?_) rfl ?_ ?_;rotate_left
    ·intro U hSw; obtain ⟨hSw0, hSw1⟩ := hSw; (go_simp <;> with_reducible rfl)
    try simp only [Act.put, nz1, nz2, nz3]
    refine tkH (i := 5) (oi := ⟨some 27, .fieldAddr 36 (.tmp 3) 0, 0, "content.go:40", #[], none⟩) (v := ?_) rfl ?_ ?_;rotate_left
    ·intro U hSw; obtain ⟨hSw0, hSw1⟩ := hSw; (go_simp <;> with_reducible rfl)
    try simp only [Act.put, nz1, nz2, nz3]
    refine tkH (i := 6) (oi := ⟨some 28, .fieldAddr 32 (.tmp 27) 6, 0, "content.go:40", #[⟨5, .data⟩], none⟩) (v := ?_) rfl ?_ ?_;rotate_left
    ·intro U hSw; obtain ⟨hSw0, hSw1⟩ := hSw; (go_simp <;> with_reducible rfl)
    try simp only [Act.put, nz1, nz2, nz3]
    refine tkH (i := 7) (oi := ⟨some 29, .load 2 (.tmp 28), 2, "content.go:40", #[⟨6, .data⟩], none⟩) (v := ?_) rfl ?_ ?_;rotate_left
    ·intro U hSw; obtain ⟨hSw0, hSw1⟩ := hSw; (go_simp <;> with_reducible rfl)
    try simp only [Act.put, nz1, nz2, nz3]
    refine wpAnyH_ready (rs := [8]) (by kernel_rfl) (by simp) ?_;refine AllReadyH.cons (o := ⟨some 30, .call ⟨.value (.func 24), #[.tmp 24, .tmp 26, .tmp 29], #[22, 33, 2]⟩, 37, "content.go:40", #[⟨2, .data⟩, ⟨4, .data⟩, ⟨7, .data⟩], none⟩) rfl (fun K hK => ?_) AllReadyH.nil;go_simp;go_at_call 24; with_reducible refine (HSX.out _ n3.drew).mono ?_; rintro e w5 ⟨a5, m5, c5, rfl, K5⟩
    (try go_wp2_with fail)
    refine hK.out _ _ ?_ (fun hHeld5 => ?_)
    ·exact K5.out.1
    clear hK K;try simp only [Act.put, nz1, nz2, nz3]
    refine tkH (i := 9) (oi := ⟨some 31, .extract (.tmp 30) 0, 22, "content.go:40", #[⟨8, .data⟩], none⟩) (v := ?_) rfl ?_ ?_;rotate_left
    ·intro U hSw; obtain ⟨hSw0, hSw1⟩ := hSw; (go_simp <;> with_reducible rfl)
    try simp only [Act.put, nz1, nz2, nz3]
    refine tkH (i := 10) (oi := ⟨some 32, .extract (.tmp 30) 1, 25, "content.go:40", #[⟨8, .data⟩], none⟩) (v := ?_) rfl ?_ ?_;rotate_left
    ·intro U hSw; obtain ⟨hSw0, hSw1⟩ := hSw; (go_simp <;> with_reducible rfl)
    try simp only [Act.put, nz1, nz2, nz3]
    refine tkH (i := 11) (oi := ⟨some 4, .assign (.tmp 31), 22, "content.go:40", #[⟨9, .data⟩, ⟨8, .chain⟩, ⟨0, .phase⟩, ⟨1, .phase⟩, ⟨2, .phase⟩, ⟨3, .phase⟩, ⟨4, .phase⟩, ⟨5, .phase⟩, ⟨6, .phase⟩, ⟨7, .phase⟩, ⟨8, .phase⟩, ⟨9, .phase⟩, ⟨10, .phase⟩], none⟩) (v := ?_) rfl ?_ ?_;rotate_left
    ·intro U hSw; obtain ⟨hSw0, hSw1⟩ := hSw; (go_simp <;> with_reducible rfl)
    try simp only [Act.put, nz1, nz2, nz3]
    refine tkH (i := 12) (oi := ⟨some 5, .assign (.tmp 32), 25, "content.go:40", #[⟨10, .data⟩, ⟨11, .chain⟩, ⟨0, .phase⟩, ⟨1, .phase⟩, ⟨2, .phase⟩, ⟨3, .phase⟩, ⟨4, .phase⟩, ⟨5, .phase⟩, ⟨6, .phase⟩, ⟨7, .phase⟩, ⟨8, .phase⟩, ⟨9, .phase⟩, ⟨10, .phase⟩, ⟨11, .phase⟩], none⟩) (v := ?_) rfl ?_ ?_;rotate_left
    ·intro U hSw; obtain ⟨hSw0, hSw1⟩ := hSw; (go_simp <;> with_reducible rfl)
    try simp only [Act.put, nz1, nz2, nz3]
    refine wpAnyH_done (by kernel_rfl) ?_ _
    go_wp2_with fail
    exact HF.out _ _ _ _ (HN0.out.trans (n3.drew.trans K5.out.2.1)) K5.out.2.2
   ·have hKn := d4;obtain ⟨g, hg, o, c', e, e1, e2, e3⟩ : ∃ g, ¬ (w.heap.size ≤ g) ∧ SlB g (.slice a n c) d w := by
     rcases hd with ⟨a', e, e2⟩ | h
     ·injection e with ea el ec;exact absurd (show c = K from ec.trans (Nat.le_zero.1 (Nat.le_trans d4 (by rw [ec] at hnc; exact hnc))).symm) hcp
     ·exact h
    injection e with ea el ec;subst ea ec;clear el;have hcl : ¬ c = K := hcp;obtain ⟨nk, hnk⟩ : ∃ nk, n - K = nk := ⟨_, rfl⟩;have HSX : Hid (∀ V, Nw W0 V → Calls Tryz.prog 24 #[.slice (some ⟨g, o + K, none⟩) nk (c - K), .slice aM mM cM, .int .i64 s] V fun e w' => ∃ a5 m5 c5, e = .returned (.tuple #[.slice a5 m5 c5, .int .i64 EB]) ∧ Hid ((w'.cell? ⟨ib, 20, none⟩ = some (.slice aM mM cM) ∧ w'.cell? ⟨ib, 10, none⟩ = some (.int .i64 s)) ∧ Nw V w' ∧ NewB w (.slice a5 m5 c5) (if B then sprd (d.drop K) l s else []) w')) := fun V hV => by
     have t := HSQ.out V (some ⟨g, o + K, none⟩) (c - K) (hN0.trans hV) (.inr ⟨g, (fun h => hg (Nat.le_trans (hN0.trans hV).size h)), o + K, c - K, by rw [hdk], by rw [hdk]; exact Nat.sub_le_sub_right hnc K, Nat.lt_of_le_of_lt (Nat.sub_le _ _) hc2, (e3.nw (hN0.trans hV)).drop K⟩);rw [hnk] at t;exact t.mono (fun e w' q => by obtain ⟨a5, m5, c5, q1, q2⟩ := q; exact ⟨a5, m5, c5, q1, HC.out w' (hV.trans q2.out.1), q2.out.1, q2.out.2⟩)
    have HNK := tHid hnk;clear hP hd hN0 hW0 ri hv hform hM hhb hve hH hHt hle hdl hs hnc hc2 hs0 hHn hHm hB eK hdk HSQ hK hn d4 HN2 hKn e1 e2 e3 hg;go_enter Tryz.func17, Tryz.ntmps17;go_upto_region 1 with fail;rw [HW0.out];go_upto_region 3 with (first
     | (go_at_call 22; with_reducible refine (HV.out _ HN0.out).mono ?_; rintro e w2 ⟨rfl, K2⟩))
    obtain ⟨y20, y10⟩ := HC.out w2 K2.out;go_upto_region 6 with (first
     | (go_at_call 23; with_reducible refine (HB.out _ (HN0.out.trans K2.out)).mono ?_; rintro e w3 ⟨rfl, K3⟩))
    have n3 := K2.out.trans K3.out;have HS6 := tHid (HC.out w3.drew n3.drew);refine wp_region_held_drew (S := fun U => U.cell? ⟨ib, 20, none⟩ = some (.slice aM mM cM) ∧ U.cell? ⟨ib, 10, none⟩ = some (.int .i64 s)) (by kernel_rfl) HS6.out (fun hHeld => ?_);refine tkH (i := 0) (oi := ⟨some 22, .move (.tmp 0), 22, "content.go:40", #[], none⟩) (v := ?_) rfl ?_ ?_;rotate_left
    ·intro U hSw; obtain ⟨hSw0, hSw1⟩ := hSw; (go_simp <;> with_reducible rfl)
    try simp only [Act.put, nz1, nz2, nz3]
    refine tkH (i := 1) (oi := ⟨some 23, .move (.tmp 6), 2, "content.go:40", #[], none⟩) (v := ?_) rfl ?_ ?_;rotate_left
    ·intro U hSw; obtain ⟨hSw0, hSw1⟩ := hSw; (go_simp <;> with_reducible rfl)
    try simp only [Act.put, nz1, nz2, nz3]
    refine tkH (i := 2) (oi := ⟨some 24, .slice 22 (.tmp 22) (some (.tmp 23)) none none, 22, "content.go:40", #[⟨0, .data⟩, ⟨1, .data⟩], none⟩) (v := ?_) rfl ?_ ?_;rotate_left
    ·intro U hSw; obtain ⟨hSw0, hSw1⟩ := hSw; (go_simp <;> with_reducible rfl)
    try simp only [Act.put, nz1, nz2, nz3]
    refine tkH (i := 3) (oi := ⟨some 25, .fieldAddr 36 (.tmp 3) 9, 0, "content.go:40", #[], none⟩) (v := ?_) rfl ?_ ?_;rotate_left
    ·intro U hSw; obtain ⟨hSw0, hSw1⟩ := hSw; (go_simp <;> with_reducible rfl)
    try simp only [Act.put, nz1, nz2, nz3]
    refine tkH (i := 4) (oi := ⟨some 26, .load 33 (.tmp 25), 33, "content.go:40", #[⟨3, .data⟩], none⟩) (v := ?_) rfl ?_ ?_;rotate_left
    ·intro U hSw; obtain ⟨hSw0, hSw1⟩ := hSw; (go_simp <;> with_reducible rfl)
    try simp only [Act.put, nz1, nz2, nz3]
    refine tkH (i := 5) (oi := ⟨some 27, .fieldAddr 36 (.tmp 3) 0, 0, "content.go:40", #[], none⟩) (v := ?_) rfl ?_ ?_;rotate_left
    ·intro U hSw; obtain ⟨hSw0, hSw1⟩ := hSw; (go_simp <;> with_reducible rfl)
    try simp only [Act.put, nz1, nz2, nz3]
    refine tkH (i := 6) (oi := ⟨some 28, .fieldAddr 32 (.tmp 27) 6, 0, "content.go:40", #[⟨5, .data⟩], none⟩) (v := ?_) rfl ?_ ?_;rotate_left
    ·intro U hSw; obtain ⟨hSw0, hSw1⟩ := hSw; (go_simp <;> with_reducible rfl)
    try simp only [Act.put, nz1, nz2, nz3]
    refine tkH (i := 7) (oi := ⟨some 29, .load 2 (.tmp 28), 2, "content.go:40", #[⟨6, .data⟩], none⟩) (v := ?_) rfl ?_ ?_;rotate_left
    ·intro U hSw; obtain ⟨hSw0, hSw1⟩ := hSw; (go_simp <;> with_reducible rfl)
    try simp only [Act.put, nz1, nz2, nz3]
    refine wpAnyH_ready (rs := [8]) (by kernel_rfl) (by simp) ?_;refine AllReadyH.cons (o := ⟨some 30, .call ⟨.value (.func 24), #[.tmp 24, .tmp 26, .tmp 29], #[22, 33, 2]⟩, 37, "content.go:40", #[⟨2, .data⟩, ⟨4, .data⟩, ⟨7, .data⟩], none⟩) rfl (fun K hK => ?_) AllReadyH.nil;go_simp;go_at_call 24; with_reducible refine (HSX.out _ n3.drew).mono ?_; rintro e w5 ⟨a5, m5, c5, rfl, K5⟩
    (try go_wp2_with fail)
    refine hK.out _ _ ?_ (fun hHeld5 => ?_)
    ·exact K5.out.1
    clear hK K;try simp only [Act.put, nz1, nz2, nz3]
    refine tkH (i := 9) (oi := ⟨some 31, .extract (.tmp 30) 0, 22, "content.go:40", #[⟨8, .data⟩], none⟩) (v := ?_) rfl ?_ ?_;rotate_left
    ·intro U hSw; obtain ⟨hSw0, hSw1⟩ := hSw; (go_simp <;> with_reducible rfl)
    try simp only [Act.put, nz1, nz2, nz3]
    refine tkH (i := 10) (oi := ⟨some 32, .extract (.tmp 30) 1, 25, "content.go:40", #[⟨8, .data⟩], none⟩) (v := ?_) rfl ?_ ?_;rotate_left
    ·intro U hSw; obtain ⟨hSw0, hSw1⟩ := hSw; (go_simp <;> with_reducible rfl)
    try simp only [Act.put, nz1, nz2, nz3]
    refine tkH (i := 11) (oi := ⟨some 4, .assign (.tmp 31), 22, "content.go:40", #[⟨9, .data⟩, ⟨8, .chain⟩, ⟨0, .phase⟩, ⟨1, .phase⟩, ⟨2, .phase⟩, ⟨3, .phase⟩, ⟨4, .phase⟩, ⟨5, .phase⟩, ⟨6, .phase⟩, ⟨7, .phase⟩, ⟨8, .phase⟩, ⟨9, .phase⟩, ⟨10, .phase⟩], none⟩) (v := ?_) rfl ?_ ?_;rotate_left
    ·intro U hSw; obtain ⟨hSw0, hSw1⟩ := hSw; (go_simp <;> with_reducible rfl)
    try simp only [Act.put, nz1, nz2, nz3]
    refine tkH (i := 12) (oi := ⟨some 5, .assign (.tmp 32), 25, "content.go:40", #[⟨10, .data⟩, ⟨11, .chain⟩, ⟨0, .phase⟩, ⟨1, .phase⟩, ⟨2, .phase⟩, ⟨3, .phase⟩, ⟨4, .phase⟩, ⟨5, .phase⟩, ⟨6, .phase⟩, ⟨7, .phase⟩, ⟨8, .phase⟩, ⟨9, .phase⟩, ⟨10, .phase⟩, ⟨11, .phase⟩], none⟩) (v := ?_) rfl ?_ ?_;rotate_left
    ·intro U hSw; obtain ⟨hSw0, hSw1⟩ := hSw; (go_simp <;> with_reducible rfl)
    try simp only [Act.put, nz1, nz2, nz3]
    refine wpAnyH_done (by kernel_rfl) ?_ _
    go_wp2_with fail
    exact HF.out _ _ _ _ (HN0.out.trans (n3.drew.trans K5.out.2.1)) K5.out.2.2
  ·have HF : Hid (∀ V, Nw w V → P (.returned (.tuple #[.slice none 0 0, .int .i64 1])) V) := fun V hV => by rw [hP]; exact .inl ⟨fun h => hle h.2, rfl, hV⟩
   obtain ⟨Z, hZ⟩ : ∃ Z : Int, (n : Int) - (H : Int) = Z := ⟨_, rfl⟩;have hHn : ¬ H ≤ n := fun h => hle (by rw [← hH, hdl]; exact Int.ofNat_le.2 h)
   have d1 : Z < 0 := by rw [← hZ]; exact subZ n H hHn
   have kw : wrap64 Z = Z := by rw [← hZ]; exact wrapZ n H hn hHm
   clear hP hd hN0 hW0 ri hv hform hM hhb hve hH hHt hle hdl hs hn hnc hc2 hs0 hHn hHm;go_enter Tryz.func17, Tryz.ntmps17;go_upto_region 1 with fail;rw [HW0.out];go_upto_region 3 with (first
    | (go_at_call 22; with_reducible refine (HV.out _ HN0.out).mono ?_; rintro e w2 ⟨rfl, K2⟩))
   obtain ⟨y20, y10⟩ := HC.out w2 K2.out
   go_wp2_with (first
    | (go_at_call 23; with_reducible refine (HB.out _ (HN0.out.trans K2.out)).mono ?_; rintro e w3 ⟨rfl, K3⟩))
   exact HF.out _ (HN0.out.trans (K2.out.trans K3.out))
theorem qbclone_any {X : Nat → Prop} (w : World) (a : Option Addr) (n c : Nat) (l : List By) (h : Sl X (.slice a n c) l w) (hl : n ≤ 140737488351232) : Calls Tryz.prog 18 #[.slice a n c] w fun e w' => ∃ a' c', e = .returned (.slice a' n c') ∧ Hid (Nw w w' ∧ Mine (fun k => k < w.heap.size) (.slice a' n c') l w') := by
 refine asP fun P hP => ?_
 obtain ⟨hln, _, _⟩ := slx_len h;cases a with
 | none =>
  have hl0 : l = [] ∧ n = 0 ∧ c = 0 := by
   rcases h with ⟨a', e, e2⟩ | ⟨g, _, o, c', e, _⟩
   ·injection e with e1 e3 e4; exact ⟨e2, e3, e4⟩
   ·injection e with e1 _ _; cases e1
  obtain ⟨rfl, rfl, rfl⟩ := hl0;have HF : Hid (P (.returned (.slice none 0 0)) w) := by rw [hP]; exact ⟨none, 0, rfl, Fr.refl _ _, .inl ⟨rfl, rfl⟩⟩
  have hnil : ∀ w, (binOp BinOp.eql 22 (.slice none 0 0) (.slice none 0 0)).run Tryz.prog w = .ok (.bool true) w := fun _ => by kernel_rfl
  clear hP h hl;go_enter Tryz.func18, Tryz.ntmps18
  go_wp2_with fail
  exact HF.out
 | some x =>
  have hN : Nw w (w.alloc (.cells #[] 5)) := (Fr.refl _ _).alloc _;obtain ⟨v', g', W, k1, k2, k3, k4⟩ := app_any (w.alloc (.cells #[] 5)) w.heap.size _ [] (Ow.empty w) (.slice (some x) n c) l ((h.nw hN).mono (fun _ h => h.elim)) (by simp only [List.length_nil]; omega);rw [List.nil_append] at k2;have hsz : (w.alloc (.cells #[] 5)).heap.size = w.heap.size + 1 := by simp
  have hg' : ¬ g' < w.heap.size := by rcases k4 with h | h <;> omega
  obtain ⟨xs, e2', _, _, _, _⟩ := id k2;subst e2';rw [hln] at k1 k2;have HF : Hid (P (.returned (.slice (some ⟨g', 0, none⟩) n xs.length)) W) := by
   show P _ _;rw [hP];exact ⟨_, _, rfl, Fr.then hN k3 (fun i hi => .inr (by omega)), .inr ⟨g', hg', k2⟩⟩
  have HAP := tHid k1;clear k1 k2 k3 k4 hP hN h hln hg' hsz;generalize xs.length = cx at *;have hnil : ∀ w, (binOp BinOp.eql 22 (.slice (some x) n c) (.slice none 0 0)).run Tryz.prog w = .ok (.bool false) w := fun _ => by kernel_rfl
  go_enter Tryz.func18, Tryz.ntmps18
  go_wp2_with (first
   | (at_builtin; refine Lib.wpList_append_run _ rfl _ _ 22 22 rfl (.slice (some ⟨w.heap.size, 0, none⟩) 0 0) (.slice (some x) n c) (by first | rfl | simp [Act.eval]) (by first | rfl | simp [Act.eval]) _ _ (HAP.out _) ?_))
  exact HF.out
theorem qNew_any {X : Nat → Prop} (w : World) (a : Option Addr) (n c : Nat) (l : List By) (h : Sl X (.slice a n c) l w) (hl : n ≤ 140737488351232) : Calls Tryz.prog 12 #[.slice a n c] w fun e w' => ∃ rb va vc, e = .returned (.pointer (some ⟨rb, 0, none⟩)) ∧ Hid (Nw w w' ∧ Rm (fun k => k = rb ∨ w'.heap.size ≤ k) rb va vc l 0 (.slice none 0 0) [] w' ∧ w.heap.size ≤ rb) := by
 refine asP fun P hP => ?_
 obtain ⟨hln, _, _⟩ := slx_len h;have HC := tHid (qbclone_any w a n c l h hl);have HF : Hid (∀ V a' c', Nw w V → Mine (fun k => k < w.heap.size) (.slice a' n c') l V → P (.returned (.pointer (some ⟨V.heap.size, 0, none⟩))) (V.alloc (.cells #[.slice a' n c', .int .i64 0, .slice none 0 0, .int .i64 0] 51))) := fun V a' c' hV hm => by
  rw [hP];have hN : Nw V (V.alloc (.cells #[.slice a' n c', .int .i64 0, .slice none 0 0, .int .i64 0] 51)) := (Fr.refl _ _).alloc _;refine ⟨V.heap.size, a', c', rfl, hV.trans hN, ⟨?_, ?_, .inl ⟨none, rfl, rfl⟩, .inl rfl, Nat.zero_le _, by rw [hln]; exact hl⟩, hV.size⟩
  ·rw [hln]; exact newHeap _ _
  ·rw [hln];rcases hm with ⟨e, e2⟩ | ⟨g, hg, ho⟩
   ·injection e with e1 e3 e4;subst e1 e3 e4;exact .inl ⟨_, rfl, e2⟩
   ·exact .inr ⟨g, (fun e => by have := ho.lt; have := hN.size; have := (ho.nw hN).lt; omega), (ho.nw hN).slb⟩
 clear hP h hl hln;go_enter Tryz.func12, Tryz.ntmps12
 go_wp2_with (first | (go_at_call 18; with_reducible refine HC.out.mono ?_; rintro e w2 ⟨a', c', rfl, K2⟩))
 exact HF.out _ _ _ K2.out.1 K2.out.2
theorem ct_nums (n q z : Nat) (h : q + z ≤ n) (hn : n ≤ 140737488351232) (E : Nat) (hE : q + z = E) : ¬ (q : Int) < 0 ∧ ¬ (z : Int) < 0 ∧ ¬ (n : Int) < (q : Int) ∧ (∃ D : Nat, (n : Int) - (q : Int) = (D : Int) ∧ ¬ (D : Int) < (z : Int) ∧ wrap64 (D : Int) = (D : Int)) ∧ (q : Int) + (z : Int) = (E : Int) ∧ IntKind.i64.wrap (E : Int) = (E : Int) ∧ q ≤ E ∧ E - q = z ∧ (E : Int) ≤ (n : Int) := by
 refine ⟨by omega, by omega, by omega, ⟨n - q, by omega, by omega, by unfold wrap64; omega⟩, by omega, by rw [IntKind.wrap_i64]; omega, by omega, by omega, by omega⟩
theorem ct_z (n c q z : Nat) (hnc : n ≤ c) (hqz : q + z ≤ n) : c = q → z = 0 := by omega
theorem ct_le (n q z : Nat) (h : q + z ≤ n) (hn : n ≤ 140737488351232) : z ≤ 140737488351232 ∧ z ≤ 140737488351232 := by omega
theorem ct_caps (n c E : Nat) (h : (E : Int) ≤ (n : Int)) (hc : n ≤ c) : (E : Int) ≤ (c : Int) := by omega
theorem Old.sub {w : World} {g o n c : Nat} {d : List By} (h : SlB g (.slice (some ⟨g, o, none⟩) n c) d w) (hg : ¬ w.heap.size ≤ g) (q z : Nat) (hqz : q + z ≤ d.length) : Old w (.slice (some ⟨g, o + q, none⟩) z (c - q)) (fd d q z) := by
 obtain ⟨o', c', e, e1, e2, e3⟩ := h;injection e with ea el ec;injection ea with ea;injection ea with _ eo;subst eo ec;have hl := fd_length d q z hqz;exact .inr ⟨g, hg, o + q, c - q, by rw [hl], by rw [hl]; omega, by omega, (e3.drop q).take z⟩
theorem qContent_ok {X : Nat → Prop} (w : World) (a : Option Addr) (n c : Nat) (b : List By) (hb : Old w (.slice a n c) b) (hn : n ≤ 140737488351232) (CI : Array Value) (hCI : (Tryz.prog.info? 36).map (·.size) = some CI.size) (aM : Option Addr) (mM cM : Nat) (l : List Rg) (s : Int) (q z : Nat) (sp : Bool)
  (i1 : CI[1]? = some (.int .i64 2)) (i10 : CI[10]? = some (.int .i64 s)) (i16 : CI[16]? = some (.int .i64 (q : Nat))) (i18 : CI[18]? = some (.int .i64 (z : Nat))) (i19 : CI[19]? = some (.bool sp)) (i20 : CI[20]? = some (.slice aM mM cM))
  (hM : SlR RG X (.slice aM mM cM) l w) (hs : 0 ≤ s ∧ s ≤ 4194304) (hqz : q + z ≤ n) (hq0 : 0 < n) (hsz : sp = false → s = (z : Nat)) :
  Calls Tryz.prog 10 #[.slice a n c, .agg CI] w fun e w' => (sp = false ∧ ∃ a' c', e = .returned (.tuple #[.slice a' z c', .int .i64 0]) ∧ Hid (Nw w w' ∧ Mine (fun k => k < w.heap.size) (.slice a' z c') (fd b q z) w')) ∨ (sp = true ∧ ∃ V, Nw w V ∧ SrA V (fd b q z) l s e w') := by
 refine asP fun P hP => ?_
 obtain ⟨hbl, hnc, hc2, hform⟩ := Old.caps hb;obtain ⟨g, hg, hslb⟩ : ∃ g, ¬ (w.heap.size ≤ g) ∧ SlB g (.slice a n c) b w := by
  rcases hb with ⟨a', e, e2⟩ | h
  ·injection e with ea el ec; rw [el] at hq0; exact absurd hq0 (Nat.lt_irrefl 0)
  ·exact h
 obtain ⟨o, rfl⟩ : ∃ o, a = some ⟨g, o, none⟩ := by
  obtain ⟨o, c', e, _⟩ := hslb;injection e with ea _ _;exact ⟨o, ea⟩
 obtain ⟨E, hE⟩ : ∃ E, q + z = E := ⟨_, rfl⟩;obtain ⟨d1, d2, d3, ⟨D, d4, d5, d6⟩, d7, d8, d9, d10, d11⟩ := ct_nums n q z hqz hn E hE;have d12 := ct_caps n c E d11 hnc;obtain ⟨ib, hib⟩ : ∃ ib, w.heap.size = ib := ⟨_, rfl⟩;obtain ⟨W0, hW0⟩ : ∃ W0, w.alloc (.cells CI 36) = W0 := ⟨_, rfl⟩;have hN0 : Nw w W0 := by rw [← hW0]; exact (Fr.refl _ _).alloc _
 have ri : W0.heap[ib]? = some (.cells CI 36) := by rw [← hW0, ← hib]; exact newHeap _ _
 have x1 := cell_of ri 1 _ i1;have x10 := cell_of ri 10 _ i10;have x16 := cell_of ri 16 _ i16;have x18 := cell_of ri 18 _ i18;have x19 := cell_of ri 19 _ i19;have hd0 : Old w (.slice (some ⟨g, o + q, none⟩) z (c - q)) (fd b q z) := Old.sub hslb hg q z (by rw [hbl]; exact hqz);have hdW : Old W0 (.slice (some ⟨g, o + q, none⟩) z (c - q)) (fd b q z) := (hd0.nw hN0).mono (fun k hk => Nat.le_trans hN0.size hk);have HW0 := tHid hW0;have HN0 := tHid hN0;have HRI := tHid ri;have HCI := tHid hCI;have s1 : ¬ s < 0 := Int.not_lt.2 hs.1;have s2 : ¬ (4194304 : Int) < s := Int.not_lt.2 hs.2
 obtain ⟨zl1, zl2⟩ := ct_le n q z hqz hn;have hcq : c = q → z = 0 := ct_z n c q z hnc hqz;have HSP : Hid (∀ V a' c', Nw w V → Old V (.slice a' z c') (fd b q z) → Calls Tryz.prog 17 #[.slice a' z c', .agg CI] V (SrA V (fd b q z) l s)) := fun V a' c' hV ho => qspread_any V a' z c' (fd b q z) ho zl1 CI aM mM cM l s i20 i10 (hM.nw hV) ⟨Int.le_trans (by decide) hs.1, Int.le_trans hs.2 (by decide)⟩
 have HCL : Hid (∀ V a' c', Nw w V → Old V (.slice a' z c') (fd b q z) → Calls Tryz.prog 18 #[.slice a' z c'] V fun e w' => ∃ a2 c2, e = .returned (.slice a2 z c2) ∧ Hid (Nw V w' ∧ Mine (fun k => k < V.heap.size) (.slice a2 z c2) (fd b q z) w')) := fun V a' c' hV ho => qbclone_any V a' z c' (fd b q z) ho zl2
 have HF1 : Hid (sp = false → ∀ V a' c', Nw w V → Mine (fun k => k < w.heap.size) (.slice a' z c') (fd b q z) V → P (.returned (.tuple #[.slice a' z c', .int .i64 0])) V) := fun h V a' c' h1 h2 => by rw [hP]; exact .inl ⟨h, a', c', rfl, h1, h2⟩
 have HF2 : Hid (sp = true → ∀ V e w', Nw w V → SrA V (fd b q z) l s e w' → P e w') := fun h V e w' h1 h2 => by rw [hP]; exact .inr ⟨h, V, h1, h2⟩
 have hfl := fd_length b q z (by rw [hbl]; exact hqz);have HO1 := tHid hdW;have HO0 : Hid (c = q → Old W0 (.slice (some ⟨g, o, none⟩) z 0) (fd b q z)) := fun h => by
  have hz := hcq h;rw [hz];exact .inl ⟨_, rfl, List.eq_nil_of_length_eq_zero (by rw [hz] at hfl; exact hfl)⟩
 have HSZ := tHid hsz;have HS1 := tHid s1;have HS2 := tHid s2;have HZ := tHid hcq;clear hP hb hslb hg hbl hd0 hdW hM hs hqz hq0 hsz hcq hfl hN0 ri hW0 hCI i1 i10 i16 i18 i19 i20 hE hn hform hc2 hnc zl1 zl2 s1 s2;have s1 : ¬ s < 0 := HS1.out;have s2 : ¬ (4194304 : Int) < s := HS2.out;generalize fd b q z = dd at *;go_enter Tryz.func10, Tryz.ntmps10;go_upto_region 1 with fail;rw [HW0.out];go_upto_region 7 with fail
 go_cut [6, 10, 11, 15, 16, 17, 20, 21, 25, 28, 29, 34, 35, 36, 43, 44, 45] from 46 to 54 (fun v q10 q11 q15 q16 q17 q20 q21 q25 q28 q29 q34 q35 q36 q43 q44 q45 wx => ∃ a' c', v = .slice a' z c' ∧ Hid (Old W0 (.slice a' z c') dd) ∧ W0 = wx)
 case first =>
  by_cases hcp : c = q
  ·have HO2 := tHid (HO0.out hcp);have hcT : (c = q) = True := eq_true hcp;have hc0 : c - q = 0 := by rw [hcp]; exact Nat.sub_self q
   clear hcp
   go_wp2_with fail
   go_meet
   exact ⟨_, _, rfl, HO2, rfl⟩
  ·go_wp2_with fail
   go_meet
   exact ⟨_, _, rfl, HO1, rfl⟩
 case rest =>
 obtain ⟨a', c', rfl, HO, rfl⟩ := hcut;cases sp with
 | false =>
  obtain rfl : s = (z : Int) := HSZ.out rfl
  go_wp2_with (first | (go_at_call 18; with_reducible refine (HCL.out W0 a' c' HN0.out HO.out).mono ?_; rintro e w2 ⟨a2, c2, rfl, K2⟩))
  refine HF1.out (by first | rfl | trivial) _ _ _ (HN0.out.trans K2.out.1) ?_;rcases K2.out.2 with h | ⟨g2, h1, h2⟩
  ·exact .inl h
  ·exact .inr ⟨g2, (fun h => h1 (Nat.lt_of_lt_of_le h HN0.out.size)), h2⟩
 | true =>
  go_upto_region 9 with fail
  go_wp2_with (first
   | (refine wpList_load_row rfl 36 _ rfl ib (by first | rfl | simp [Act.eval]) 36 _ (0, 0) _ HRI.out Tryz.underlying36 rfl HCI.out ?_))
  go_at_call 17
  with_reducible refine (HSP.out W0 a' c' HN0.out HO.out).mono ?_
  rintro e w2 h;have HH := tHid h;rcases h with ⟨h1, rfl, h3⟩ | ⟨h1, h2, a5, m5, c5, rfl, h3⟩
  ·have HE := tHid (HF2.out (by first | rfl | trivial) W0 _ w2 HN0.out HH.out);clear HH h1 h3
   go_wp2_with fail
   exact HE.out
  ·have HE := tHid (HF2.out (by first | rfl | trivial) W0 _ w2 HN0.out HH.out);clear HH h1 h2 h3;generalize (if okS (dd.drop (dd.length - (hld l).toNat)) l s then (0 : Int) else 1) = EB at *
   go_wp2_with fail
   exact HE.out
end Go.Proofs.YtlenihpbhlfcoaaGreatDoor
