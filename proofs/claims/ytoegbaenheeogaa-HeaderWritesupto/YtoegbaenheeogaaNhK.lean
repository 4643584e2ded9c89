import Derived.Test.YtoegbaenheeogaaNhJ
import Derived.Test.YtoegbaenheeogaaNfR
namespace Go.Proofs.Ytoegbaenheeogaa
open Go.RowKit
set_option linter.unusedVariables false
/-! ### A field of a record in memory -/
set_option maxHeartbeats 1000000 in
set_option maxRecDepth 100000 in
theorem of_any (o n g : Nat) (b : List By) (w : World) (hb : b.length = 512) (hn : 0 < n) (hon : o + n ≤ 512) (hg : RcH g b w) : Calls Try.prog 37 #[.agg #[.int .i64 (o : Nat), .int .i64 (n : Nat)], .pointer (some ⟨g, 0, none⟩)] w fun e w' => e = .returned (.slice (some ⟨g, o, none⟩) n (512 - o)) ∧ Nw w w' := by
  obtain ⟨P, hP⟩ : ∃ P : Ending → World → Prop, P = fun e w' => e = .returned (.slice (some ⟨g, o, none⟩) n (512 - o)) ∧ Nw w w' := ⟨_, rfl⟩
  rw [← hP]
  have HF : Hid (∀ m W, m = n → Nw w W → P (.returned (.slice (some ⟨g, o, none⟩) m (512 - o))) W) := fun m W hm hW => by rw [hP, hm]; exact ⟨rfl, hW⟩
  clear hP
  have z1 : (o : Int) ≤ (o : Int) + (n : Int) := by omega
  have z2 : (o : Int) + (n : Int) ≤ 512 := by omega
  have z3 : ¬ 512 - o = 0 := by omega
  have z4 : ¬ o = 512 := by omega
  have z5 : ¬ 512 ≤ o := by omega
  have hg2 := tHid hg
  clear hg
  go_enter Try.func37, Try.ntmps37
  go_upto_region 1 with fail
  go_quiet (fail)
  go_wp2_with fail
  exact HF.out (o + n - o) _ (by omega) (((Fr.refl _ _).alloc _).drewN _)
set_option maxHeartbeats 1000000 in
theorem may_any (o n z : Int) (F : Value) (bl : Bool) (w : World) : Calls Try.prog 64 #[.agg #[.int .i64 o, .int .i64 n, F, .bool bl], .int .i64 z] w fun e w' => e = .returned (.bool (decide (0 ≤ z) || bl)) ∧ Nw w w' := by
  obtain ⟨P, hP⟩ : ∃ P : Ending → World → Prop, P = fun e w' => e = .returned (.bool (decide (0 ≤ z) || bl)) ∧ Nw w w' := ⟨_, rfl⟩
  rw [← hP]
  have HF : Hid (∀ W, Nw w W → P (.returned (.bool (decide (0 ≤ z) || bl))) W) := fun W hW => by rw [hP]; exact ⟨rfl, hW⟩
  clear hP
  by_cases h : 0 ≤ z
  · rw [decide_eq_true h] at HF
    go_enter Try.func64, Try.ntmps64
    go_wp2_with fail
    exact HF.out _ ((Fr.refl _ _).alloc _)
  · rw [decide_eq_false h] at HF
    go_enter Try.func64, Try.ntmps64
    go_wp2_with fail
    exact HF.out _ ((Fr.refl _ _).alloc _)
/-! ### put -/
theorem cpy_nil (w : World) (A : Addr) (n c : Nat) : ∀ ty, (cpyT #[52, 52] ty #[.slice (some A) n c, .slice none 0 0]).run Try.prog w = .ok (.int .i64 0) w := fun ty => by
  obtain ⟨i, hi, hz, hsz, hby⟩ := infoB
  exact run_copy_none w 52 52 ty 5 (some A) none n c 0 0 Try.underlying52 (by rw [hi]; simp [hsz]) (by simp)
theorem RcH.setRow {g : Nat} {b : List By} {w : World} (h : RcH g b w) (l : List By) : RcH g l (w.setRow g (rc l)) := setRow_heap _ _ _ _ 24 _ h
/-- Cells of a block that was just laid stay where they are. -/
theorem cell_kept {X : Nat → Prop} {w w' : World} (f : Fr X w w') {g : Nat} {o : Obj} (h : w.heap[g]? = some o) (hx : ¬ X g) : w'.heap[g]? = some o := (f.block g (Array.getElem?_eq_some_iff.1 h).1 hx).trans h
theorem cell_of {w : World} {g : Nat} {a : Array Value} {T : Nat} (h : w.heap[g]? = some (.cells a T)) (j : Nat) (v : Value) (hv : a[j]? = some v) : w.cell? ⟨g, j, none⟩ = some v := by
  simp [World.cell?, h, hv]
/-- What a call that writes a field leaves: the bytes l at o, if it is all right. -/
def PtO (ok : Bool) (g : Nat) (b : List By) (o : Nat) (l : List By) (w : World) (e : Ending) (w' : World) : Prop :=
  e = .returned (.bool ok) ∧ Hid (∃ b', b'.length = 512 ∧ (ok = true → b' = pt b o l) ∧ RcH g b' w' ∧ Fr (fun k => k = g) w w')
/-- Copying what a call answered into a field. -/
theorem put_copy {E : Nat} {L : List By} {w w1 : World} {a : Option Addr} {m c : Nat} (h : (E ≠ 0 ∧ a = none ∧ m = 0 ∧ c = 0) ∨ (E = 0 ∧ ∃ g, w.heap.size ≤ g ∧ Ow g (.slice a m c) L w1)) (g o n : Nat) (b : List By) (hb : b.length = 512) (hon : o + n ≤ 512) (hL : E = 0 → L.length = n) (w2 : World) (h2 : Nw w1 w2) (hg : RcH g b w2) :
    ∃ W3 z, (∀ ty, (cpyT #[52, 52] ty #[.slice (some ⟨g, o, none⟩) n (512 - o), .slice a m c]).run Try.prog w2 = .ok (.int .i64 z) W3) ∧ RcH g (if E = 0 then pt b o L else b) W3 ∧ Fr (fun k => k = g) w2 W3 := by
  by_cases hE : E = 0
  · rw [if_pos hE]
    obtain ⟨g2, ea, hO, e1, e2, e3⟩ := put_sl h hE
    subst ea
    have hS : Rd g2 0 L w2 := by
      obtain ⟨o', c', e, _, _, hr⟩ := (hO.nw h2).slb
      injection e with ea _ _
      injection ea with ea
      injection ea with _ eo
      have eo' : o' = 0 := eo.symm
      subst eo'
      exact hr
    have hm : m = n := by rw [← e1]; exact hL hE
    have c1 := copy_recB w2 g o n (512 - o) b g2 m c L hg e1 (by omega) (by omega) hS
    refine ⟨_, _, c1, ?_, (Fr.refl _ _).setRow _ _ (.inl rfl)⟩
    have := hg.setRow (pt b o L)
    unfold pt at this ⊢
    rw [e1] at this ⊢
    exact this
  · rw [if_neg hE]
    rcases h with ⟨_, rfl, rfl, rfl⟩ | ⟨e, _⟩
    · exact ⟨w2, 0, cpy_nil w2 _ n (512 - o), hg, Fr.refl _ _⟩
    · exact absurd e hE
section
attribute [local go_sem ↓] cpyT_fold
set_option maxHeartbeats 2000000 in
set_option maxRecDepth 100000 in
theorem tput_any (o n g : Nat) (F : Value) (s : ByteArray) (b : List By) (w : World) (hb : b.length = 512) (hn : 0 < n) (hon : o + n ≤ 512) (hg : RcH g b w) (hs : s.size ≤ 140737488351232) :
    Calls Try.prog 38 #[.agg #[.int .i64 (o : Nat), .int .i64 (n : Nat), F], .pointer (some ⟨g, 0, none⟩), .string s] w (PtO (decide (pxE s n = 0)) g b o (pxL s n) w) := by
  obtain ⟨P, hP⟩ : ∃ P : Ending → World → Prop, P = PtO (decide (pxE s n = 0)) g b o (pxL s n) w := ⟨_, rfl⟩
  rw [← hP]
  obtain ⟨W1, hW1⟩ : ∃ W1, w.alloc (.cells #[.int .i64 (o : Nat), .int .i64 (n : Nat), F] 69) = W1 := ⟨_, rfl⟩
  have hB : W1.heap[w.heap.size]? = some (.cells #[.int .i64 (o : Nat), .int .i64 (n : Nat), F] 69) := by rw [← hW1]; exact newHeap _ _
  have hN1 : Nw w W1 := by rw [← hW1]; exact (Fr.refl _ _).alloc _
  have HPT : Hid (Calls Try.prog 63 #[.string s, .int .i64 (n : Nat)] W1 fun e w1 => ∃ a m c, e = .returned (.tuple #[.slice a m c, .int .i64 (pxE s n : Nat)]) ∧ w1.cell? ⟨w.heap.size, 0, none⟩ = some (.int .i64 (o : Nat)) ∧ w1.cell? ⟨w.heap.size, 1, none⟩ = some (.int .i64 (n : Nat)) ∧ Hid (Calls Try.prog 37 #[.agg #[.int .i64 (o : Nat), .int .i64 (n : Nat)], .pointer (some ⟨g, 0, none⟩)] w1 fun e w2 => e = .returned (.slice (some ⟨g, o, none⟩) n (512 - o)) ∧ ∃ W3 z, (∀ ty, (cpyT #[52, 52] ty #[.slice (some ⟨g, o, none⟩) n (512 - o), .slice a m c]).run Try.prog w2 = .ok (.int .i64 z) W3) ∧ Hid (P (.returned (.bool (decide (pxE s n = 0)))) W3))) := by
    refine (putText_any s n W1 hs).mono ?_
    rintro e w1 ⟨a, m, c, rfl, k1, k2⟩
    have hB1 := k1.heap hB
    refine ⟨a, m, c, rfl, cell_of hB1 0 _ rfl, cell_of hB1 1 _ rfl, ?_⟩
    refine (of_any o n g b w1 hb hn hon ((hg.kept hN1 (fun h => h)).kept k1 (fun h => h))).mono ?_
    rintro e w2 ⟨rfl, k3⟩
    have hg2 : RcH g b w2 := ((hg.kept hN1 (fun h => h)).kept k1 (fun h => h)).kept k3 (fun h => h)
    obtain ⟨W3, z, c1, c2, c3⟩ := put_copy k2 g o n b hb hon (fun hE => px_length s n hE) w2 k3 hg2
    refine ⟨rfl, W3, z, c1, ?_⟩
    show P _ _
    rw [hP]
    refine ⟨rfl, _, ?_, fun hk => ?_, c2, Fr.then (Fr.mono ((hN1.trans k1).trans k3) (fun i hi => hi.elim)) c3 (fun i hi => .inl hi)⟩
    · split
      · next hE => rw [pt_length _ _ _ (by rw [px_length s n hE, hb]; exact hon)]; exact hb
      · exact hb
    · rw [if_pos (of_decide_eq_true hk)]
  have hW1' := tHid hW1
  have b1 : W1.cell? ⟨w.heap.size, 1, none⟩ = some (.int .i64 (n : Nat)) := cell_of hB 1 _ rfl
  clear hP hg hB hN1 hW1
  generalize pxE s n = E at *
  have hEq : ((E : Int) == 0) = decide (E = 0) := by
    by_cases h : E = 0
    · rw [decide_eq_true h, h]; rfl
    · rw [decide_eq_false h, beq_eq_false_iff_ne]; omega
  go_enter Try.func38, Try.ntmps38
  go_upto_region 1 with fail
  rw [hW1'.out]
  go_wp2_with (first
    | (go_at_call 63; with_reducible refine HPT.out.mono ?_; rintro e w1 ⟨a, m, c, rfl, k0, k1, K2⟩)
    | (go_at_call 37; with_reducible refine K2.out.mono ?_; rintro e w2 ⟨rfl, W3, z, hc, K3⟩))
  exact K3.out
set_option maxHeartbeats 2000000 in
set_option maxRecDepth 100000 in
theorem nput_any (f o n g : Nat) (F : Value) (bl : Bool) (x : Int) (b : List By) (w : World) (hb : b.length = 512) (hn : 0 < n) (hon : o + n ≤ 512) (hg : RcH g b w) (hx : i64 x) :
    Calls Try.prog 39 #[.agg #[.int .i64 (o : Nat), .int .i64 (n : Nat), F, .bool bl], .pointer (some ⟨g, 0, none⟩), .int .i64 x, fP f] w (PtO (decide (nE f x n = 0) && (decide (0 ≤ x) || bl)) g b o (nL f x n) w) := by
  obtain ⟨P, hP⟩ : ∃ P : Ending → World → Prop, P = PtO (decide (nE f x n = 0) && (decide (0 ≤ x) || bl)) g b o (nL f x n) w := ⟨_, rfl⟩
  rw [← hP]
  obtain ⟨W1, hW1⟩ : ∃ W1, w.alloc (.cells #[.int .i64 (o : Nat), .int .i64 (n : Nat), F, .bool bl] 77) = W1 := ⟨_, rfl⟩
  have hB : W1.heap[w.heap.size]? = some (.cells #[.int .i64 (o : Nat), .int .i64 (n : Nat), F, .bool bl] 77) := by rw [← hW1]; exact newHeap _ _
  have hN1 : Nw w W1 := by rw [← hW1]; exact (Fr.refl _ _).alloc _
  have key : ∀ (e : Ending) (w1 : World), PutA (nE f x n) (nL f x n) W1 e w1 → ∃ a m c, e = .returned (.tuple #[.slice a m c, .int .i64 (nE f x n : Nat)]) ∧ w1.cell? ⟨w.heap.size, 0, none⟩ = some (.int .i64 (o : Nat)) ∧ w1.cell? ⟨w.heap.size, 1, none⟩ = some (.int .i64 (n : Nat)) ∧ Hid (Calls Try.prog 37 #[.agg #[.int .i64 (o : Nat), .int .i64 (n : Nat)], .pointer (some ⟨g, 0, none⟩)] w1 fun e w2 => e = .returned (.slice (some ⟨g, o, none⟩) n (512 - o)) ∧ ∃ W3 z, (∀ ty, (cpyT #[52, 52] ty #[.slice (some ⟨g, o, none⟩) n (512 - o), .slice a m c]).run Try.prog w2 = .ok (.int .i64 z) W3) ∧ W3.cell? ⟨w.heap.size, 0, none⟩ = some (.int .i64 (o : Nat)) ∧ W3.cell? ⟨w.heap.size, 1, none⟩ = some (.int .i64 (n : Nat)) ∧ W3.cell? ⟨w.heap.size, 2, none⟩ = some F ∧ W3.cell? ⟨w.heap.size, 3, none⟩ = some (.bool bl) ∧ Hid (∀ W4, Nw W3 W4 → P (.returned (.bool (decide (nE f x n = 0) && (decide (0 ≤ x) || bl)))) W4)) := by
    rintro e w1 ⟨a, m, c, rfl, k1, k2⟩
    have hB1 := k1.heap hB
    refine ⟨a, m, c, rfl, cell_of hB1 0 _ rfl, cell_of hB1 1 _ rfl, ?_⟩
    refine (of_any o n g b w1 hb hn hon ((hg.kept hN1 (fun h => h)).kept k1 (fun h => h))).mono ?_
    rintro e w2 ⟨rfl, k3⟩
    have hg2 : RcH g b w2 := ((hg.kept hN1 (fun h => h)).kept k1 (fun h => h)).kept k3 (fun h => h)
    obtain ⟨W3, z, c1, c2, c3⟩ := put_copy k2 g o n b hb hon (fun hE => nL_length f x n hx hE) w2 k3 hg2
    have hB3 := cell_kept c3 (k3.heap hB1) (fun e => by have := hg.lt; omega)
    refine ⟨rfl, W3, z, c1, cell_of hB3 0 _ rfl, cell_of hB3 1 _ rfl, cell_of hB3 2 _ rfl, cell_of hB3 3 _ rfl, fun W4 h4 => ?_⟩
    rw [hP]
    refine ⟨rfl, _, ?_, fun hk => ?_, c2.kept h4 (fun h => h), Fr.then (Fr.then (Fr.mono ((hN1.trans k1).trans k3) (fun i hi => hi.elim)) c3 (fun i hi => .inl hi)) h4 (fun i hi => hi.elim)⟩
    · split
      · next hE => rw [pt_length _ _ _ (by rw [nL_length f x n hx hE, hb]; exact hon)]; exact hb
      · exact hb
    · rw [Bool.and_eq_true] at hk
      rw [if_pos (of_decide_eq_true hk.1)]
  have hW1' := tHid hW1
  have b1 : W1.cell? ⟨w.heap.size, 1, none⟩ = some (.int .i64 (n : Nat)) := cell_of hB 1 _ rfl
  have HM := tHid (fun V => may_any (o : Nat) (n : Nat) x F bl V)
  by_cases hf : f = 3
  · have hfp : fP f = .func (.func 31) #[] #[] := by unfold fP; rw [if_pos hf]; rfl
    have HPN := tHid ((putNumber_any x n W1 hx.1 hx.2).mono (fun e w1 h => key e w1 (by unfold nE nL; rw [if_pos hf, if_pos hf]; exact h)))
    rw [hfp]
    clear hP hg hB hN1 hW1 key hfp hf
    generalize nE f x n = E at *
    by_cases hz : E = 0
    · subst hz
      rw [decide_eq_true (rfl : (0 : Nat) = 0), Bool.true_and] at HPN
      go_enter Try.func39, Try.ntmps39
      go_upto_region 1 with fail
      rw [hW1'.out]
      go_wp2_with (first
        | (go_at_call 31; with_reducible refine HPN.out.mono ?_; rintro e w1 ⟨a, m, c, rfl, k0, k1, K2⟩)
        | (go_at_call 37; with_reducible refine K2.out.mono ?_; rintro e w2 ⟨rfl, W3, z, hc, y0, y1, y2, y3, K3⟩)
        | (go_at_call 64; with_reducible refine (HM.out _).mono ?_; rintro e w4 ⟨rfl, K4⟩))
      exact K3.out _ K4
    · have hq : ((E : Int) == 0) = false := by rw [beq_eq_false_iff_ne]; omega
      rw [decide_eq_false hz, Bool.false_and] at HPN
      go_enter Try.func39, Try.ntmps39
      go_upto_region 1 with fail
      rw [hW1'.out]
      go_wp2_with (first
        | (go_at_call 31; with_reducible refine HPN.out.mono ?_; rintro e w1 ⟨a, m, c, rfl, k0, k1, K2⟩)
        | (go_at_call 37; with_reducible refine K2.out.mono ?_; rintro e w2 ⟨rfl, W3, z, hc, y0, y1, y2, y3, K3⟩))
      exact K3.out _ (Fr.refl _ _)
  · have hfp : fP f = .func (.func 30) #[] #[] := by unfold fP; rw [if_neg hf]; rfl
    have HPN := tHid ((putOctal_any x n W1 hx.1 hx.2).mono (fun e w1 h => key e w1 (by unfold nE nL; rw [if_neg hf, if_neg hf]; exact h)))
    rw [hfp]
    clear hP hg hB hN1 hW1 key hfp hf
    generalize nE f x n = E at *
    by_cases hz : E = 0
    · subst hz
      rw [decide_eq_true (rfl : (0 : Nat) = 0), Bool.true_and] at HPN
      go_enter Try.func39, Try.ntmps39
      go_upto_region 1 with fail
      rw [hW1'.out]
      go_wp2_with (first
        | (go_at_call 30; with_reducible refine HPN.out.mono ?_; rintro e w1 ⟨a, m, c, rfl, k0, k1, K2⟩)
        | (go_at_call 37; with_reducible refine K2.out.mono ?_; rintro e w2 ⟨rfl, W3, z, hc, y0, y1, y2, y3, K3⟩)
        | (go_at_call 64; with_reducible refine (HM.out _).mono ?_; rintro e w4 ⟨rfl, K4⟩))
      exact K3.out _ K4
    · have hq : ((E : Int) == 0) = false := by rw [beq_eq_false_iff_ne]; omega
      rw [decide_eq_false hz, Bool.false_and] at HPN
      go_enter Try.func39, Try.ntmps39
      go_upto_region 1 with fail
      rw [hW1'.out]
      go_wp2_with (first
        | (go_at_call 30; with_reducible refine HPN.out.mono ?_; rintro e w1 ⟨a, m, c, rfl, k0, k1, K2⟩)
        | (go_at_call 37; with_reducible refine K2.out.mono ?_; rintro e w2 ⟨rfl, W3, z, hc, y0, y1, y2, y3, K3⟩))
      exact K3.out _ (Fr.refl _ _)
end
end Go.Proofs.Ytoegbaenheeogaa
