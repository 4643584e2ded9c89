import Derived.Test.YtlenihpbhlfcoaaGreatDoorUba
import Derived.Great.BuildSlice
set_option maxHeartbeats 8000000
set_option maxRecDepth 100000
set_option linter.unusedSimpArgs false
set_option linter.unusedVariables false
namespace Go.Proofs.YtlenihpbhlfcoaaGreatDoor
open Go.RowKit
variable {Y : Nat → Prop} {rb : Nat} {va : Option Addr} {vc : Nat} {b : List By} {p : Nat} {vG : Value} {G : List Pr} {w : World}
theorem pdF_nat (z : Nat) : pdF (z : Nat) = (padN z : Nat) := by unfold pdF padN; split <;> omega
theorem padN_lt5 (z : Nat) : padN z < 512 := by unfold padN; omega
def TkA (Y : Nat → Prop) (rb : Nat) (va : Option Addr) (vc : Nat) (b : List By) (p z : Nat) (vG : Value) (G : List Pr) (w : World) (e : Ending) (w' : World) : Prop :=
 (b.length < p + z + padN z ∧ e = gvR (b.length : Nat) 4 ∧ Nw w w') ∨ (p + z + padN z ≤ b.length ∧ ∃ a c, e = .returned (.slice a z c) ∧ Hid (Sl (fun k => Y k ∨ w.heap.size ≤ k) (.slice a z c) (fd b p z) w' ∧ Rm Y rb va vc b (p + z + padN z) vG G w' ∧ Fr (fun k => k = rb) w w'))
theorem Rm.caps (h : Rm Y rb va vc b p vG G w) : b.length ≤ vc ∧ vc < 9223372036854775808 ∧ (vc ≠ 0 → ∃ g o, va = some ⟨g, o, none⟩ ∧ ¬ Y g ∧ Rd g o b w) := by
 rcases h.sl with ⟨a', e, e2⟩ | ⟨g, hg, o, c', e, e1, e2, e3⟩
 ·injection e with ea el ec;subst ec;exact ⟨by omega, by omega, fun h => absurd rfl h⟩
 ·injection e with ea _ ec;subst ec;exact ⟨e1, e2, fun _ => ⟨g, o, ea, hg, e3⟩⟩
theorem qtake_any (h : Rm Y rb va vc b p vG G w) (h0 : 0 < b.length) (z : Nat) (hz : z ≤ 9223372036854775807) : Calls Tryz.prog 58 #[.pointer (some ⟨rb, 0, none⟩), .int .i64 (z : Nat)] w (TkA Y rb va vc b p z vG G w) := by
 refine asP fun P hP => ?_
 obtain ⟨c0, c1, f1, _, _⟩ := h.cells;have hbl := h.bl;have hpl := h.pl;obtain ⟨L, hL⟩ : ∃ L, b.length = L := ⟨_, rfl⟩;have HL := tHid hL;have HG := tHid (qgiveUp_any (L : Nat) 4);obtain ⟨N, hN⟩ : ∃ N, padN z = N := ⟨_, rfl⟩;have HPD : Hid (∀ V, Calls Tryz.prog 96 #[.int .i64 (z : Nat)] V fun e w' => e = .returned (.int .i64 (N : Nat)) ∧ V = w') := fun V => by
  have := pad_any (z : Nat) V (by omega) (by omega);rw [pdF_nat, hN] at this;exact this
 have hN5 : N < 512 := by rw [← hN]; exact padN_lt5 z
 have hpi : (p : Int) ≤ (L : Int) := by omega
 have hli : (L : Int) ≤ 140737488351232 := by omega
 have HC : Hid (∀ V, Nw w V → V.cell? ⟨rb, 0, none⟩ = some (.slice va L vc) ∧ V.cell? ⟨rb, 1, none⟩ = some (.int .i64 (p : Nat)) ∧ V.frozen? ⟨rb, 1, none⟩ = false) := fun V hV => by
  have k := (h.nw hV).cells;rw [hL] at k;exact ⟨k.1, k.2.1, k.2.2.1⟩
 have hcL := c0;rw [hL] at hcL;obtain ⟨D, hD⟩ : ∃ D, L - p = D := ⟨_, rfl⟩;have hDi : (L : Int) - (p : Int) = (D : Int) := by omega
 by_cases hlt : b.length < p + z + padN z
 ·have HF : Hid (∀ V, Nw w V → P (gvR (L : Nat) 4) V) := fun V hV => by rw [hP]; exact .inl ⟨hlt, by rw [HL.out], hV⟩
  by_cases h1 : D < z
  ·have d1 : (D : Int) < (z : Int) := by omega
   clear hP h hlt hN c0 hL h1 hD;go_enter Tryz.func58, Tryz.ntmps58;go_upto_region 1 with fail
   go_quiet (fail)
   have c0' := (HC.out _ ((Fr.refl _ _).drewN nq)).1
   go_wp2_with (first | (go_at_call 39; with_reducible refine (HG.out _).mono ?_; rintro x w2 ⟨rfl, rfl⟩))
   exact ⟨rfl, HF.out _ ((Fr.refl _ _).drewN nq)⟩
  ·have d1 : ¬ (D : Int) < (z : Int) := by omega
   obtain ⟨S1, hS1⟩ : ∃ S1, z + N = S1 := ⟨_, rfl⟩;have d2 : (z : Int) + (N : Int) = (S1 : Int) := by omega
   have d3 : (D : Int) < (S1 : Int) := by omega
   have d4 : IntKind.i64.wrap (S1 : Int) = (S1 : Int) := by rw [IntKind.wrap_i64]; omega
   clear hP h hlt hN c0 hL h1 hD hS1;go_enter Tryz.func58, Tryz.ntmps58;go_upto_region 1 with fail
   go_quiet (fail)
   have c0' := (HC.out _ ((Fr.refl _ _).drewN nq)).1
   go_wp2_with (first
    | (go_at_call 39; with_reducible refine (HG.out _).mono ?_; rintro x w2 ⟨rfl, rfl⟩)
    | (go_at_call 96; with_reducible refine (HPD.out _).mono ?_; rintro e w9 ⟨rfl, rfl⟩))
   exact ⟨rfl, HF.out _ ((Fr.refl _ _).drewN nq)⟩
 ·have d1 : ¬ (D : Int) < (z : Int) := by omega
  obtain ⟨S1, hS1⟩ : ∃ S1, z + N = S1 := ⟨_, rfl⟩;obtain ⟨Q, hQ⟩ : ∃ Q, p + S1 = Q := ⟨_, rfl⟩;obtain ⟨E1, hE1⟩ : ∃ E1, p + z = E1 := ⟨_, rfl⟩;have d2 : (z : Int) + (N : Int) = (S1 : Int) := by omega
  have d3 : ¬ (D : Int) < (S1 : Int) := by omega
  have d4 : IntKind.i64.wrap (S1 : Int) = (S1 : Int) := by rw [IntKind.wrap_i64]; omega
  have d5 : (p : Int) + (S1 : Int) = (Q : Int) := by omega
  have d6 : IntKind.i64.wrap (Q : Int) = (Q : Int) := by rw [IntKind.wrap_i64]; omega
  have d7 : (p : Int) + (z : Int) = (E1 : Int) := by omega
  have d8 : IntKind.i64.wrap (E1 : Int) = (E1 : Int) := by rw [IntKind.wrap_i64]; omega
  have hQl : Q ≤ b.length := by omega
  have HEND : Hid (∀ V a c, Nw w V → Sl (fun k => Y k ∨ w.heap.size ≤ k) (.slice a z c) (fd b p z) V → P (.returned (.slice a z c)) (V.drew.setCell ⟨rb, 1, none⟩ (.int .i64 (Q : Nat)))) := fun V a c hV hs => by
   have hV2 : Nw w V.drew := hV.drew;obtain ⟨k1, k2⟩ := (h.nw hV2).go Q hQl (Q : Nat) rfl;rw [hP];refine .inr ⟨by omega, a, c, rfl, ?_, by rw [hN, Nat.add_assoc, hS1, hQ]; exact k1, Fr.then hV2.any k2 (fun i hi => .inl hi)⟩;exact (hs.nw ((Fr.refl _ _).drew)).kept k2 (fun g hg => by subst hg; exact .inl h.yr)
  obtain ⟨hbc, hbc2, hform⟩ := h.caps;have k2 : (E1 : Int) ≤ (vc : Int) := by omega
  have k3 : p ≤ E1 := by omega
  have k4 : E1 - p = z := by omega
  have k6 : E1 ≤ vc := by omega
  have hlf := fd_length b p z (by omega);have hzc : vc = p → z = 0 := by omega
  clear hP hlt hN c0 hL hD hS1 hQ hE1 hpl hQl;go_enter Tryz.func58, Tryz.ntmps58;go_upto_region 1 with fail
  go_quiet (fail)
  go_upto_region 4 with (first
   | (go_at_call 96; with_reducible refine (HPD.out _).mono ?_; rintro e w9 ⟨rfl, rfl⟩))
  have hV1 : Nw w (w.drewN nq) := (Fr.refl _ _).drewN nq;obtain ⟨y0, y1, y2⟩ := HC.out _ hV1;go_cut [6] from 34 to 48 (fun v wx => ∃ a c, v = .slice a z c ∧ Hid (Nw w wx ∧ Sl (fun k => Y k ∨ w.heap.size ≤ k) (.slice a z c) (fd b p z) wx))
  case first =>
   by_cases hcp : vc = p
   ·have hz0 := hzc hcp;have HSX : Hid (∀ V, Sl (fun k => Y k ∨ w.heap.size ≤ k) (.slice va z 0) (fd b p z) V) := fun V => by
     rw [hz0]; exact .inl ⟨va, rfl, by rw [hz0] at hlf; exact List.eq_nil_of_length_eq_zero hlf⟩
    clear hform h HEND hlf hz0 hzc
    go_quiet (fail)
    go_wp2_with fail
    go_meet
    exact ⟨_, _, rfl, ((Fr.refl _ _).drewN _).drewN _, HSX.out _⟩
   ·obtain ⟨bg, bo, rfl, hbg, hrd⟩ := hform (by omega);have hbs : bg < w.heap.size := by
     have hr0 := hrd 0 h0;simp only [World.cell?] at hr0;cases hq : w.heap[bg]? with
     | none => rw [hq] at hr0; cases hr0
     | some ob => exact (Array.getElem?_eq_some_iff.1 hq).1
    have HSX : Hid (∀ V, Nw w V → Sl (fun k => Y k ∨ w.heap.size ≤ k) (.slice (some ⟨bg, bo + p, none⟩) z (vc - p)) (fd b p z) V) := fun V hV => .inr ⟨bg, (fun hh => hh.elim hbg (fun h2 => by omega)), bo + p, vc - p, by rw [hlf], by rw [hlf]; omega, by omega, ((hrd.nw hV).drop p).take z⟩
    clear hform h HEND hlf hzc hrd hbg hbs
    go_quiet (fail)
    go_wp2_with fail
    go_meet
    exact ⟨_, _, rfl, ((Fr.refl _ _).drewN _).drewN _, HSX.out _ (((Fr.refl _ _).drewN _).drewN _)⟩
  case rest =>
  obtain ⟨a, c, rfl, HV⟩ := hcut;obtain ⟨V, hVe⟩ : ∃ z, z = wc := ⟨_, rfl⟩;subst hVe;have HE5 := tHid (HEND.out V a c HV.out.1 HV.out.2);obtain ⟨y3, y4, y5⟩ := HC.out V HV.out.1;clear HV HEND HC h hform y0 y1 y2 hV1 hlf hzc;go_upto_region 5 with fail;refine wp_region_held_drew (S := fun _ => True) (by kernel_rfl) trivial (fun hHeld => ?_);refine wpAnyH_take (i := 0) (oi := ⟨some 49, .move (.tmp 0), 42, "reader.go:126", #[], none⟩) (v := ?_) rfl (by kernel_rfl) (by kernel_rfl) (by kernel_rfl) (fun _ _ _ h => h) (Or.inl ⟨by rfl, ?_⟩) trivial ?_;rotate_left
  ·intro U hSw; clear hSw; (go_simp <;> with_reducible rfl)
  try simp only [Act.put, nz1, nz2, nz3]
  refine wpAnyH_take (i := 1) (oi := ⟨some 50, .nilCheck (.tmp 49), 0, "reader.go:126", #[⟨0, .data⟩], none⟩) (v := ?_) rfl (by kernel_rfl) (by kernel_rfl) (by kernel_rfl) (fun _ _ _ h => h) (Or.inl ⟨by rfl, ?_⟩) trivial ?_;rotate_left
  ·intro U hSw; clear hSw; (go_simp <;> with_reducible rfl)
  try simp only [Act.put, nz1, nz2, nz3]
  refine wpAnyH_take (i := 2) (oi := ⟨some 51, .fieldAddr 51 (.tmp 50) 1, 0, "reader.go:126", #[⟨1, .data⟩], none⟩) (v := ?_) rfl (by kernel_rfl) (by kernel_rfl) (by kernel_rfl) (fun _ _ _ h => h) (Or.inl ⟨by rfl, ?_⟩) trivial ?_;rotate_left
  ·intro U hSw; clear hSw; (go_simp <;> with_reducible rfl)
  try simp only [Act.put, nz1, nz2, nz3]
  refine wpAnyH_take (i := 4) (oi := ⟨some 53, .move (.tmp 1), 2, "reader.go:126", #[], none⟩) (v := ?_) rfl (by kernel_rfl) (by kernel_rfl) (by kernel_rfl) (fun _ _ _ h => h) (Or.inl ⟨by rfl, ?_⟩) trivial ?_;rotate_left
  ·intro U hSw; clear hSw; (go_simp <;> with_reducible rfl)
  try simp only [Act.put, nz1, nz2, nz3]
  refine wpAnyH_take (i := 5) (oi := ⟨some 54, .move (.tmp 1), 2, "reader.go:126", #[], none⟩) (v := ?_) rfl (by kernel_rfl) (by kernel_rfl) (by kernel_rfl) (fun _ _ _ h => h) (Or.inl ⟨by rfl, ?_⟩) trivial ?_;rotate_left
  ·intro U hSw; clear hSw; (go_simp <;> with_reducible rfl)
  try simp only [Act.put, nz1, nz2, nz3]
  refine wpAnyH_ready (rs := [3, 6]) (by kernel_rfl) (by simp) ?_;refine AllReadyH.cons (o := ⟨some 52, .load 3 (.tmp 51), 3, "reader.go:126", #[⟨2, .data⟩], none⟩) rfl (fun K hK => ?_) (AllReadyH.cons (o := ⟨some 55, .call ⟨.value (.func 96), #[.tmp 54], #[2]⟩, 3, "reader.go:126", #[⟨5, .data⟩], none⟩) rfl (fun K hK => ?_) AllReadyH.nil)
  ·(
   go_simp;refine hK.out _ _ trivial (fun _ => ?_);clear hK K;try simp only [Act.put, nz1, nz2, nz3]
   refine wpAnyH_ready (rs := [6]) (by kernel_rfl) (by simp) ?_;refine AllReadyH.cons (o := ⟨some 55, .call ⟨.value (.func 96), #[.tmp 54], #[2]⟩, 3, "reader.go:126", #[⟨5, .data⟩], none⟩) rfl (fun K hK => ?_) AllReadyH.nil;go_simp;go_at_call 96; with_reducible refine (HPD.out _).mono ?_; rintro e w9 ⟨rfl, rfl⟩
   (try go_wp2_with fail)
   refine hK.out _ _ trivial (fun _ => ?_);clear hK K;try simp only [Act.put, nz1, nz2, nz3]
   refine wpAnyH_take (i := 7) (oi := ⟨some 56, .binOp BinOp.add 3 (.tmp 53) (.tmp 55) 3, 3, "reader.go:126", #[⟨4, .data⟩, ⟨6, .data⟩], none⟩) (v := ?_) rfl (by kernel_rfl) (by kernel_rfl) (by kernel_rfl) (fun _ _ _ h => h) (Or.inl ⟨by rfl, ?_⟩) trivial ?_;rotate_left
   ·intro U hSw; clear hSw; (go_simp <;> with_reducible rfl)
   try simp only [Act.put, nz1, nz2, nz3]
   refine wpAnyH_take (i := 8) (oi := ⟨some 57, .binOp BinOp.add 3 (.tmp 52) (.tmp 56) 3, 3, "reader.go:126", #[⟨3, .data⟩, ⟨7, .data⟩], none⟩) (v := ?_) rfl (by kernel_rfl) (by kernel_rfl) (by kernel_rfl) (fun _ _ _ h => h) (Or.inl ⟨by rfl, ?_⟩) trivial ?_;rotate_left
   ·intro U hSw; clear hSw; (go_simp <;> with_reducible rfl)
   try simp only [Act.put, nz1, nz2, nz3]
   refine wpAnyH_take (i := 9) (oi := ⟨some 58, .nilCheck (.tmp 49), 0, "reader.go:126", #[⟨0, .data⟩, ⟨0, .phase⟩, ⟨1, .phase⟩, ⟨2, .phase⟩, ⟨3, .phase⟩, ⟨4, .phase⟩, ⟨5, .phase⟩, ⟨6, .phase⟩, ⟨7, .phase⟩, ⟨8, .phase⟩], none⟩) (v := ?_) rfl (by kernel_rfl) (by kernel_rfl) (by kernel_rfl) (fun _ _ _ h => h) (Or.inl ⟨by rfl, ?_⟩) trivial ?_;rotate_left
   ·intro U hSw; clear hSw; (go_simp <;> with_reducible rfl)
   try simp only [Act.put, nz1, nz2, nz3]
   refine wpAnyH_take (i := 10) (oi := ⟨some 59, .fieldAddr 51 (.tmp 58) 1, 0, "reader.go:126", #[⟨9, .data⟩, ⟨0, .phase⟩, ⟨1, .phase⟩, ⟨2, .phase⟩, ⟨3, .phase⟩, ⟨4, .phase⟩, ⟨5, .phase⟩, ⟨6, .phase⟩, ⟨7, .phase⟩, ⟨8, .phase⟩], none⟩) (v := ?_) rfl (by kernel_rfl) (by kernel_rfl) (by kernel_rfl) (fun _ _ _ h => h) (Or.inl ⟨by rfl, ?_⟩) trivial ?_;rotate_left
   ·intro U hSw; clear hSw; (go_simp <;> with_reducible rfl)
   try simp only [Act.put, nz1, nz2, nz3]
   refine wpAnyH_ready (rs := [11]) (by kernel_rfl) (by simp) ?_;refine AllReadyH.cons (o := ⟨none, .store 3 (.tmp 59) (.tmp 57), 0, "reader.go:126", #[⟨10, .data⟩, ⟨8, .data⟩, ⟨6, .chain⟩, ⟨0, .phase⟩, ⟨1, .phase⟩, ⟨2, .phase⟩, ⟨3, .phase⟩, ⟨4, .phase⟩, ⟨5, .phase⟩, ⟨6, .phase⟩, ⟨7, .phase⟩, ⟨8, .phase⟩], none⟩) rfl (fun K hK => ?_) AllReadyH.nil;go_simp;refine hK.out _ _ trivial (fun _ => ?_);clear hK K;try simp only [Act.put, nz1, nz2, nz3]
   refine wpAnyH_done (by kernel_rfl) ?_ _
   go_wp2_with fail
   exact HE5.out
   )
  ·(
   go_simp;go_at_call 96; with_reducible refine (HPD.out _).mono ?_; rintro e w9 ⟨rfl, rfl⟩
   (try go_wp2_with fail)
   refine hK.out _ _ trivial (fun _ => ?_);clear hK K;try simp only [Act.put, nz1, nz2, nz3]
   refine wpAnyH_take (i := 7) (oi := ⟨some 56, .binOp BinOp.add 3 (.tmp 53) (.tmp 55) 3, 3, "reader.go:126", #[⟨4, .data⟩, ⟨6, .data⟩], none⟩) (v := ?_) rfl (by kernel_rfl) (by kernel_rfl) (by kernel_rfl) (fun _ _ _ h => h) (Or.inl ⟨by rfl, ?_⟩) trivial ?_;rotate_left
   ·intro U hSw; clear hSw; (go_simp <;> with_reducible rfl)
   try simp only [Act.put, nz1, nz2, nz3]
   refine wpAnyH_ready (rs := [3]) (by kernel_rfl) (by simp) ?_;refine AllReadyH.cons (o := ⟨some 52, .load 3 (.tmp 51), 3, "reader.go:126", #[⟨2, .data⟩], none⟩) rfl (fun K hK => ?_) AllReadyH.nil;go_simp;refine hK.out _ _ trivial (fun _ => ?_);clear hK K;try simp only [Act.put, nz1, nz2, nz3]
   refine wpAnyH_take (i := 8) (oi := ⟨some 57, .binOp BinOp.add 3 (.tmp 52) (.tmp 56) 3, 3, "reader.go:126", #[⟨3, .data⟩, ⟨7, .data⟩], none⟩) (v := ?_) rfl (by kernel_rfl) (by kernel_rfl) (by kernel_rfl) (fun _ _ _ h => h) (Or.inl ⟨by rfl, ?_⟩) trivial ?_;rotate_left
   ·intro U hSw; clear hSw; (go_simp <;> with_reducible rfl)
   try simp only [Act.put, nz1, nz2, nz3]
   refine wpAnyH_take (i := 9) (oi := ⟨some 58, .nilCheck (.tmp 49), 0, "reader.go:126", #[⟨0, .data⟩, ⟨0, .phase⟩, ⟨1, .phase⟩, ⟨2, .phase⟩, ⟨3, .phase⟩, ⟨4, .phase⟩, ⟨5, .phase⟩, ⟨6, .phase⟩, ⟨7, .phase⟩, ⟨8, .phase⟩], none⟩) (v := ?_) rfl (by kernel_rfl) (by kernel_rfl) (by kernel_rfl) (fun _ _ _ h => h) (Or.inl ⟨by rfl, ?_⟩) trivial ?_;rotate_left
   ·intro U hSw; clear hSw; (go_simp <;> with_reducible rfl)
   try simp only [Act.put, nz1, nz2, nz3]
   refine wpAnyH_take (i := 10) (oi := ⟨some 59, .fieldAddr 51 (.tmp 58) 1, 0, "reader.go:126", #[⟨9, .data⟩, ⟨0, .phase⟩, ⟨1, .phase⟩, ⟨2, .phase⟩, ⟨3, .phase⟩, ⟨4, .phase⟩, ⟨5, .phase⟩, ⟨6, .phase⟩, ⟨7, .phase⟩, ⟨8, .phase⟩], none⟩) (v := ?_) rfl (by kernel_rfl) (by kernel_rfl) (by kernel_rfl) (fun _ _ _ h => h) (Or.inl ⟨by rfl, ?_⟩) trivial ?_;rotate_left
   ·intro U hSw; clear hSw; (go_simp <;> with_reducible rfl)
   try simp only [Act.put, nz1, nz2, nz3]
   refine wpAnyH_ready (rs := [11]) (by kernel_rfl) (by simp) ?_;refine AllReadyH.cons (o := ⟨none, .store 3 (.tmp 59) (.tmp 57), 0, "reader.go:126", #[⟨10, .data⟩, ⟨8, .data⟩, ⟨6, .chain⟩, ⟨0, .phase⟩, ⟨1, .phase⟩, ⟨2, .phase⟩, ⟨3, .phase⟩, ⟨4, .phase⟩, ⟨5, .phase⟩, ⟨6, .phase⟩, ⟨7, .phase⟩, ⟨8, .phase⟩], none⟩) rfl (fun K hK => ?_) AllReadyH.nil;go_simp;refine hK.out _ _ trivial (fun _ => ?_);clear hK K;try simp only [Act.put, nz1, nz2, nz3]
   refine wpAnyH_done (by kernel_rfl) ?_ _
   go_wp2_with fail
   exact HE5.out
   )
end Go.Proofs.YtlenihpbhlfcoaaGreatDoor
namespace Go.Proofs.YtlenihpbhlfcoaaGreatDoor
open Go.RowKit
theorem fold_off (L : List Value) (off : Nat) : ∀ (k : Nat) (b : Array Value), off + k + L.length ≤ b.size → ((L.zipIdx k).foldl (fun cs (x : Value × Nat) => cs.setIfInBounds (off + x.2) x.1) b).toList = b.toList.take (off + k) ++ (L ++ b.toList.drop (off + k + L.length)) := by
 induction L with
 | nil => intro k b h; simp
 | cons c L ih =>
  intro k b h;rw [List.length_cons] at h;rw [List.zipIdx_cons, List.foldl_cons, ih (k + 1) _ (by simp; omega)];simp only [Array.toList_setIfInBounds];have hk : off + k < b.toList.length := by simp; omega
  rw [List.drop_set_of_lt (by omega), ← Nat.add_assoc, List.take_add_one, List.getElem?_set_self hk, List.take_set_of_le (by omega)];simp [List.length_cons, Nat.add_assoc, Nat.add_comm 1]
theorem fill_one (pl : Nat → Option (Nat × Nat)) (i off n : Nat) (v : Value) (rest : List (Nat × Value)) (b : Array Value) (h1 : pl i = some (off, n)) (h2 : v.cells.size = n) (h3 : off + n ≤ b.size) :
  ∃ b' : Array Value, Instr.fill pl b ((i, v) :: rest) = Instr.fill pl b' rest ∧ b'.toList = b.toList.take off ++ (v.cells.toList ++ b.toList.drop (off + n)) := by
 have hn : v.cells.toList.length = n := by rw [Array.length_toList, h2]
 refine ⟨v.cells.zipIdx.foldl (fun cs (x : Value × Nat) => cs.setIfInBounds (off + x.2) x.1) b, ?_, ?_⟩
 ·rw [Instr.fill, h1];simp only;rw [if_neg (by simp [h2]; omega)]
 ·have := fold_off v.cells.toList off 0 b (by omega);rw [← Array.foldl_toList, Array.toList_zipIdx, this, hn];simp
def hdC (h : Hr) (R : List By) (q : Nat) : Array Value := (h.C ++ rc R) ++ #[.int .i64 (q : Nat)]
theorem Hr.C_size (h : Hr) : h.C.size = 14 := rfl
theorem hdC_size (h : Hr) (R : List By) (hR : R.length = 512) (q : Nat) : (hdC h R q).size = 527 := by unfold hdC; simp [Hr.C_size, rc_size, hR]
theorem hdC_lo (h : Hr) (R : List By) (q j : Nat) (v : Value) (hv : h.C[j]? = some v) : (hdC h R q)[j]? = some v := by
 have hj : j < h.C.size := (Array.getElem?_eq_some_iff.1 hv).1;unfold hdC;rw [Array.getElem?_append_left (by simp; omega), Array.getElem?_append_left hj];exact hv
theorem hdC_mid (h : Hr) (R : List By) (q j : Nat) (v : Value) (hv : (rc R)[j]? = some v) : (hdC h R q)[14 + j]? = some v := by
 have hj : j < (rc R).size := (Array.getElem?_eq_some_iff.1 hv).1;unfold hdC;rw [Array.getElem?_append_left (by simp [Hr.C_size]; omega), Array.getElem?_append_right (by rw [Hr.C_size]; omega), Hr.C_size, Nat.add_sub_cancel_left];exact hv
theorem hdC_at (h : Hr) (R : List By) (hR : R.length = 512) (q : Nat) : (hdC h R q)[526]? = some (.int .i64 (q : Nat)) := by
 unfold hdC;have e : (h.C ++ rc R).size = 526 := by simp [Hr.C_size, rc_size, hR]
 rw [Array.getElem?_append_right (by rw [e]; omega), e];rfl
theorem hdC_one (h : Hr) (R : List By) (q : Nat) : (hdC h R q).all (·.oneCell') = true := by
 unfold hdC;rw [Array.all_append, Array.all_append, rc_one];simp [Hr.C, Value.oneCell']
theorem hd_info (h : Hr) (R : List By) (hR : R.length = 512) (q : Nat) : (Tryz.prog.info? 89).map (·.size) = some (hdC h R q).size := by rw [hdC_size h R hR q]; kernel_rfl
theorem zh_size : (Tryz.zeroCells89 : Array Value).size = 527 := by kernel_rfl
theorem built_fill (parts : List (Nat × Value)) : Tryz.prog.built 89 parts = Instr.fill ((#[(0, 14), (14, 512), (526, 1)] : Array (Nat × Nat))[·]?) Tryz.zeroCells89 parts := by kernel_rfl
theorem built_head (h : Hr) (R : List By) (hR : R.length = 512) (q : Nat) : Tryz.prog.built 89 [(0, .agg h.C), (1, .agg (rc R)), (2, .int .i64 (q : Nat))] = some (hdC h R q) := by
 rw [built_fill];have hz : (Tryz.zeroCells89 : Array Value).toList.length = 527 := by rw [Array.length_toList]; exact zh_size
 obtain ⟨b1, e1, l1⟩ := fill_one ((#[(0, 14), (14, 512), (526, 1)] : Array (Nat × Nat))[·]?) 0 0 14 (.agg h.C) [(1, .agg (rc R)), (2, .int .i64 (q : Nat))] Tryz.zeroCells89 rfl rfl (by rw [zh_size]; omega);have s1 : b1.size = 527 := by rw [← Array.length_toList, l1]; simp [Value.cells, Hr.C_size, hz]
 have hrl : (rc R).toList.length = 512 := by rw [Array.length_toList, rc_size]; exact hR
 obtain ⟨b2, e2, l2⟩ := fill_one ((#[(0, 14), (14, 512), (526, 1)] : Array (Nat × Nat))[·]?) 1 14 512 (.agg (rc R)) [(2, .int .i64 (q : Nat))] b1 rfl (by show (rc R).size = 512; rw [rc_size]; exact hR) (by omega);have s2 : b2.size = 527 := by rw [← Array.length_toList, l2]; simp [Value.cells, s1, hrl]
 obtain ⟨b3, e3, l3⟩ := fill_one ((#[(0, 14), (14, 512), (526, 1)] : Array (Nat × Nat))[·]?) 2 526 1 (.int .i64 (q : Nat)) [] b2 rfl rfl (by omega);rw [e1, e2, e3, Instr.fill];refine congrArg some (Array.ext' ?_);rw [l3];unfold hdC;simp only [Value.cells, Array.toList_append];have h14 : h.C.toList.length = 14 := rfl;have t2 : b2.toList.take 526 = h.C.toList ++ (rc R).toList := by
  have tA : b1.toList.take 14 = h.C.toList := by
   rw [l1, List.take_zero, List.nil_append];exact List.take_left' h14
  rw [l2, tA];show (h.C.toList ++ ((rc R).toList ++ _)).take 526 = _;rw [← List.append_assoc];exact List.take_left' (by rw [List.length_append, h14, hrl])
 rw [t2, List.drop_of_length_le (by rw [Array.length_toList]; omega)];simp
theorem hcOne (h : Hr) : h.C.all (·.oneCell') = true := by simp [Hr.C, Value.oneCell']
def DdA (R : List By) (q : Nat) (w : World) (e : Ending) (w' : World) : Prop := (decE R ≠ 0 ∧ e = gvR ((q + decP R : Nat) : Int) (decE R : Nat) ∧ Nw w w') ∨ (decE R = 0 ∧ e = .returned (.agg (hdC (decH R) R q)) ∧ Nw w w')
theorem qdecoded_any (R : List By) (hR : R.length = 512) (q : Nat) (hq : q ≤ 140737488351232) (w : World) : Calls Tryz.prog 35 #[.agg (rc R), .int .i64 (q : Nat)] w (DdA R q w) := by
 refine asP fun P hP => ?_
 obtain ⟨kb, hkb⟩ : ∃ kb, w.heap.size = kb := ⟨_, rfl⟩;obtain ⟨ob, hob⟩ : ∃ ob, kb + 1 = ob := ⟨_, rfl⟩;obtain ⟨W0, hW0⟩ : ∃ W0, (w.alloc (.cells (rc R) 58)).alloc (.cells Tryz.zeroCells89 89) = W0 := ⟨_, rfl⟩;have hN0 : Nw w W0 := by rw [← hW0]; exact ((Fr.refl _ _).alloc _).alloc _
 have s1 : (w.alloc (.cells (rc R) 58)).heap.size = w.heap.size + 1 := by simp
 have hK0 : W0.heap[kb]? = some (.cells (rc R) 58) := by rw [← hW0, ← hkb]; exact Nw.heap ((Fr.refl _ _).alloc _) (newHeap _ _)
 have hO0 : W0.heap[ob]? = some (.cells Tryz.zeroCells89 89) := by rw [← hW0, ← hob, ← hkb, ← s1]; exact newHeap _ _
 obtain ⟨h, hh⟩ : ∃ h, decH R = h := ⟨_, rfl⟩;obtain ⟨E, hE⟩ : ∃ E, decE R = E := ⟨_, rfl⟩;obtain ⟨pl, hpl⟩ : ∃ pl, decP R = pl := ⟨_, rfl⟩;have hple : pl ≤ 512 := by rw [← hpl]; exact decP_le R
 obtain ⟨Q, hQ⟩ : ∃ Q, q + pl = Q := ⟨_, rfl⟩;have d1 : (q : Int) + (pl : Int) = (Q : Int) := by omega
 have HDC : Hid (∀ V, Calls Tryz.prog 51 #[.agg (rc R)] V fun e w' => e = .returned (.tuple #[.agg h.C, .int .i64 (pl : Nat), .int .i64 (E : Nat)]) ∧ Hid (Nw V w')) := fun V => by rw [← hh, ← hE, ← hpl]; exact decode_any R hR V
 have HRI := tHid (rc_info R hR);have HK0 := tHid hK0;have HN0 := tHid hN0;have HW0 := tHid hW0;have HHI := tHid (hcSize h)
 have HST : Hid (∀ V : World, ∃ W1, (V.alloc (.cells #[.int .i64 0, .string ⟨#[]⟩, .string ⟨#[]⟩, .int .i64 0, .int .i64 0, .int .i64 0, .int .i64 0, .int .i64 0, .int .u8 0, .string ⟨#[]⟩, .string ⟨#[]⟩, .string ⟨#[]⟩, .int .i64 0, .int .i64 0] 62)).setRow V.heap.size h.C = W1 ∧ (V.alloc (.cells #[.int .i64 0, .string ⟨#[]⟩, .string ⟨#[]⟩, .int .i64 0, .int .i64 0, .int .i64 0, .int .i64 0, .int .i64 0, .int .u8 0, .string ⟨#[]⟩, .string ⟨#[]⟩, .string ⟨#[]⟩, .int .i64 0, .int .i64 0] 62)).heap[V.heap.size]? = some (.cells #[.int .i64 0, .string ⟨#[]⟩, .string ⟨#[]⟩, .int .i64 0, .int .i64 0, .int .i64 0, .int .i64 0, .int .i64 0, .int .u8 0, .string ⟨#[]⟩, .string ⟨#[]⟩, .string ⟨#[]⟩, .int .i64 0, .int .i64 0] 62) ∧ Hid (Nw V W1 ∧ W1.heap[V.heap.size]? = some (.cells h.C 62))) := fun V => by
  have h0 := newHeap V (.cells #[.int .i64 0, .string ⟨#[]⟩, .string ⟨#[]⟩, .int .i64 0, .int .i64 0, .int .i64 0, .int .i64 0, .int .i64 0, .int .u8 0, .string ⟨#[]⟩, .string ⟨#[]⟩, .string ⟨#[]⟩, .int .i64 0, .int .i64 0] 62);exact ⟨_, rfl, h0, ((Fr.refl _ _).alloc _).setRow _ _ (.inr (Nat.le_refl _)), setRow_heap _ _ _ _ 62 _ h0⟩
 have HI1 := tHid (hcOne h);by_cases he : E = 0
 ·subst he;have HF : Hid (∀ (V : World), Nw w V → V.heap[ob]? = some (.cells Tryz.zeroCells89 89) → ∃ W5, V.setRow ob (hdC h R q) = W5 ∧ Hid (∀ tmps : Array Value, tmps.getD 4 undef = .pointer (some ⟨ob, 0, none⟩) → bodyPost Tryz.prog Tryz.f35 P .ret ⟨tmps, []⟩ W5)) := fun V hV ho => by
   have hq5 : (V.setRow ob (hdC h R q)).heap[ob]? = some (.cells (hdC h R q) 89) := setRow_heap _ _ _ _ 89 _ ho;refine ⟨_, rfl, fun tmps g2 => ?_⟩;refine bodyPost_ret (results_cell_row (P := Tryz.prog) (p := 4) (ty := 89) rfl _ _ ob 89 (hdC h R q) (0, 0) _ g2 hq5 Tryz.underlying89 rfl (hd_info h R hR q)) rfl ?_;rw [hP];refine .inr ⟨hE, by rw [hh], ?_⟩;exact hV.then ((Fr.refl _ _).setRow ob _ (.inl rfl) : Fr (fun k => k = ob) V _) (fun i hi => .inr (by omega))
  have HM := tHid (qmust_ok (Q : Nat));have HO0 := tHid hO0;have HB := tHid (built_head h R hR q);have HZI := tHid (hd_info h R hR q);have HZ1 := tHid (hdC_one h R q);have HZ2 : Hid ((Tryz.zeroCells89 : Array Value).size = (hdC h R q).size) := by show _ = _; rw [hdC_size h R hR q]; exact zh_size
  clear hP hK0 hO0 hN0 hW0 hh hE hpl hQ;go_enter Tryz.func35, Tryz.ntmps35;go_upto_region 1 with fail;rw [HW0.out];go_upto_region 3 with (first
   | (refine wpList_load_row rfl 58 _ rfl kb (by first | rfl | simp [Act.eval]) 58 _ (0, 0) _ HK0.out Tryz.underlying58 rfl HRI.out ?_)
   | (go_at_call 51; with_reducible refine (HDC.out _).mono ?_; rintro e w1 ⟨rfl, K1⟩; obtain ⟨W1, e1, q1, L1⟩ := HST.out w1; have Q1 := tHid q1)
   | (refine wpList_store_row rfl 62 _ _ rfl w1.heap.size h.C (by first | rfl | simp [Act.eval]) (by first | rfl | simp [Act.eval]) 62 _ Q1.out HHI.out rfl HI1.out ?_; rw [e1])
   | (go_at_call 52; with_reducible refine (HM.out _).mono ?_; rintro e w2 ⟨rfl, rfl⟩))
  have HN1 := tHid (K1.out.trans L1.out.1);have HH1 := tHid L1.out.2;have HK1 : Hid (w2.heap[kb]? = some (.cells (rc R) 58)) := Nw.heap HN1.out HK0.out;have HO1 : Hid (w2.heap[ob]? = some (.cells Tryz.zeroCells89 89)) := Nw.heap HN1.out HO0.out;obtain ⟨W5, e5, HE⟩ := HF.out w2 (HN0.out.trans HN1.out) HO1.out;clear K1 L1 q1 Q1 e1 HN1;generalize w1.heap.size = hb at *;obtain ⟨HCv, hHC⟩ : ∃ H, hdC h R q = H := ⟨_, rfl⟩;rw [hHC] at HB HZI HZ1 HZ2 e5
  go_wp2_with (first
   | (refine wpList_load_row rfl 58 _ rfl kb (by first | rfl | simp [Act.eval]) 58 _ (0, 0) _ HK1.out Tryz.underlying58 rfl HRI.out ?_)
   | (refine wpList_load_row rfl 62 _ rfl hb (by first | rfl | simp [Act.eval]) 62 _ (0, 0) _ HH1.out Tryz.underlying62 rfl HHI.out ?_)
   | (refine wpList_buildTo rfl 89 _ rfl _ rfl HCv (Eq.trans (congrArg (Program.built Tryz.prog 89) (by kernel_rfl)) HB.out) ?_)
   | (refine wpList_store_row rfl 89 _ _ rfl ob HCv (by first | rfl | simp [Act.eval]) (by first | rfl | simp [Act.eval]) 89 _ HO1.out HZI.out HZ2.out HZ1.out ?_; rw [e5]))
  exact HE.out _ rfl
 ·have hei : ¬ (E : Int) = 0 := by omega
  have HF : Hid (∀ V, Nw w V → P (gvR (Q : Nat) (E : Nat)) V) := fun V hV => by rw [hP]; exact .inl ⟨by rw [hE]; exact he, by rw [hpl, hE, hQ], hV⟩
  have HM := tHid (qmust_bad (Q : Nat) (E : Nat) hei);clear hP hK0 hO0 hN0 hW0 hh hE hpl hQ he hei;go_enter Tryz.func35, Tryz.ntmps35;go_upto_region 1 with fail;rw [HW0.out];go_upto_region 2 with (first
   | (refine wpList_load_row rfl 58 _ rfl kb (by first | rfl | simp [Act.eval]) 58 _ (0, 0) _ HK0.out Tryz.underlying58 rfl HRI.out ?_)
   | (go_at_call 51; with_reducible refine (HDC.out _).mono ?_; rintro e w1 ⟨rfl, K1⟩; obtain ⟨W1, e1, q1, L1⟩ := HST.out w1; have Q1 := tHid q1)
   | (refine wpList_store_row rfl 62 _ _ rfl w1.heap.size h.C (by first | rfl | simp [Act.eval]) (by first | rfl | simp [Act.eval]) 62 _ Q1.out HHI.out rfl HI1.out ?_; rw [e1]))
  go_wp2_with (first
   | (go_at_call 52; with_reducible refine (HM.out _).mono ?_; rintro e w2 ⟨rfl, rfl⟩))
  exact ⟨rfl, HF.out _ (HN0.out.trans (K1.out.trans L1.out.1))⟩
end Go.Proofs.YtlenihpbhlfcoaaGreatDoor
