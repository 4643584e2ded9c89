import Derived.Test.YtlenihpbhlfcoaaGreatDoorUbc
import Derived.Test.YtlenihpbhlfcoaaGreatDoorUby
set_option maxHeartbeats 8000000
set_option maxRecDepth 100000
set_option linter.unusedSimpArgs false
set_option linter.unusedVariables false
namespace Go.Proofs.YtlenihpbhlfcoaaGreatDoor
open Go.RowKit
theorem ps_form {X : Nat → Prop} {v : Value} {P : List Pr} {w : World} (h : SlR RP X v P w) : ∃ a c, v = .slice a P.length c := by
 obtain ⟨a, c, e, _⟩ := h.form;exact ⟨a, c, e⟩
theorem qstext_any {X : Nat → Prop} (vP : Value) (P : List Pr) (q : Nat) (k : Bs) (o : ByteArray) (w : World) (hP : SlR RP X vP P w) (hlen : P.length ≤ 1000000000) : Calls Tryz.prog 86 #[.agg #[vP, .int .i64 (q : Nat)], .string (str k), .string o] w fun e w' => e = .returned (.string (txP14 P k o)) ∧ Nw w w' := by
 refine asP fun Q hQ => ?_
 obtain ⟨a, c, rfl⟩ := ps_form hP;have hN0 : Nw w (w.alloc (.cells #[.slice a P.length c, .int .i64 (q : Nat)] 121)) := (Fr.refl _ _).alloc _;have HFd := tHid (pfind_any (w.alloc (.cells #[.slice a P.length c, .int .i64 (q : Nat)] 121)) (.slice a P.length c) P k (hP.nw hN0) hlen);have HN0 := tHid hN0;have HF : Hid (∀ V r, Nw w V → txP14 P k o = r → Q (.returned (.string r)) V) := fun V r hV hr => by rw [hQ, ← hr]; exact ⟨rfl, hV⟩
 unfold txP14 at HF;clear hQ hN0 hP;generalize P.length = n at *;cases hf : fndV P k with
 | none =>
  rw [hf] at HFd HF;simp only [fdV] at HFd;have HO := tHid (qor_none ⟨#[]⟩ o);clear hf;go_enter Tryz.func86, Tryz.ntmps86
  go_wp2_with (first
   | (go_at_call 84; with_reducible refine HFd.out.mono ?_; rintro e w1 ⟨rfl, K1⟩; have HK1 := tHid K1; clear K1)
   | (go_at_call 87; with_reducible refine (HO.out _).mono ?_; rintro e w2 ⟨rfl, K2⟩; have HK2 := tHid K2; clear K2))
  exact HF.out _ _ (HN0.out.trans (HK1.out.trans HK2.out)) rfl
 | some v =>
  rw [hf] at HFd HF;simp only [fdV] at HFd;have HO := tHid (qor_some (str v) o);clear hf;go_enter Tryz.func86, Tryz.ntmps86
  go_wp2_with (first
   | (go_at_call 84; with_reducible refine HFd.out.mono ?_; rintro e w1 ⟨rfl, K1⟩; have HK1 := tHid K1; clear K1)
   | (go_at_call 87; with_reducible refine (HO.out _).mono ?_; rintro e w2 ⟨rfl, K2⟩; have HK2 := tHid K2; clear K2))
  exact HF.out _ _ (HN0.out.trans (HK1.out.trans HK2.out)) rfl
def NbA (r : Nat × Nat) (q : Nat) (w : World) (e : Ending) (w' : World) : Prop := (r.2 ≠ 0 ∧ e = gvR (q : Nat) (r.2 : Nat) ∧ Nw w w') ∨ (r.2 = 0 ∧ e = .returned (.int .i64 (r.1 : Nat)) ∧ Nw w w')
def VlB (P : List Pr) : Prop := ∀ x ∈ P, x.2.length ≤ 140737488351232
theorem fnd_mem {P : List Pr} {k v : Bs} (h : fndV P k = some v) : (k, v) ∈ P := by
 unfold fndV at h;have : ∀ (l : List Pr) (a : Option Bs), l.foldl (fun a x => if x.1 = k then some x.2 else a) a = some v → a = some v ∨ (k, v) ∈ l := by
  intro l
  induction l with
  | nil => intro a h; exact .inl h
  | cons x r ih =>
   intro a h;rw [List.foldl_cons] at h;rcases ih _ h with h1 | h1
   ·split at h1
    ·rename_i hk;injection h1 with h1;subst hk h1;exact .inr (by simp)
    ·exact .inl h1
   ·exact .inr (by simp [h1])
 rcases this P none h with h1 | h1
 ·cases h1
 ·exact h1
theorem qsnumber_any {X : Nat → Prop} (vP : Value) (P : List Pr) (q : Nat) (k : Bs) (n : Nat) (w : World) (hP : SlR RP X vP P w) (hlen : P.length ≤ 1000000000) (hv : VlB P) (hE : Env w) : Calls Tryz.prog 54 #[.agg #[vP, .int .i64 (q : Nat)], .string (str k), .int .i64 (n : Nat)] w (NbA (nbP P k n) q w) := by
 refine asP fun Q hQ => ?_
 obtain ⟨a, c, rfl⟩ := ps_form hP;obtain ⟨W0, hW0⟩ : ∃ W0, w.alloc (.cells #[.slice a P.length c, .int .i64 (q : Nat)] 121) = W0 := ⟨_, rfl⟩;have hN0 : Nw w W0 := by rw [← hW0]; exact (Fr.refl _ _).alloc _
 have hR0 : W0.heap[w.heap.size]? = some (.cells #[.slice a P.length c, .int .i64 (q : Nat)] 121) := by rw [← hW0]; exact newHeap _ _
 have x0 : W0.cell? ⟨w.heap.size, 0, none⟩ = some (.slice a P.length c) := cell_of hR0 0 _ rfl;have HX1 : Hid (∀ V, Nw W0 V → V.cell? ⟨w.heap.size, 1, none⟩ = some (.int .i64 (q : Nat))) := fun V hV => Nw.cell hV (cell_of hR0 1 _ rfl)
 have HFd := tHid (pfind_any W0 (.slice a P.length c) P k (hP.nw hN0) hlen);have HN0 := tHid hN0;have HW0 := tHid hW0;have HEv : Hid (∀ V, Nw w V → Env V) := fun V hV => hE.nw hV
 have HF : Hid (∀ V r, Nw w V → nbP P k n = (r, 0) → Q (.returned (.int .i64 (r : Nat))) V) := fun V r hV hr => by rw [hQ, hr]; exact .inr ⟨rfl, rfl, hV⟩
 have HG : Hid (∀ V r (E : Nat), Nw w V → nbP P k n = (r, E) → E ≠ 0 → Q (gvR (q : Nat) (E : Nat)) V) := fun V r E hV hr h0 => by rw [hQ, hr]; exact .inl ⟨h0, rfl, hV⟩
 unfold nbP at HF HG;generalize P.length = m at *;cases hf : fndV P k with
 | none =>
  rw [hf] at HFd HF;simp only [fdV] at HFd;clear hf hQ hN0 hP hW0 hR0 HG;go_enter Tryz.func54, Tryz.ntmps54;go_upto_region 1 with fail;rw [HW0.out]
  go_wp2_with (first
   | (go_at_call 84; with_reducible refine HFd.out.mono ?_; rintro e w1 ⟨rfl, K1⟩; have HK1 := tHid K1; clear K1))
  exact HF.out _ _ (HN0.out.trans HK1.out) rfl
 | some v =>
  rw [hf] at HFd HF HG;simp only [fdV] at HFd;have hvl : v.length ≤ 140737488351232 := hv _ (fnd_mem hf);simp only at HF HG;have HNm : Hid (∀ V, Nw w V → Calls Tryz.prog 85 #[.string (str v)] V fun e w' => e = .returned (.tuple #[.int .i64 ((numV v).1 : Nat), .int .i64 ((numV v).2 : Nat)]) ∧ Hid (Nw V w')) := fun V hV => num_any v hvl V (hE.nw hV)
  generalize numV v = r at *;obtain ⟨r1, E⟩ := r;simp only at HNm;by_cases he : E = 0
  ·subst he;have HM := tHid (qmust_ok (q : Nat));clear hf hQ hN0 hP hW0 hR0 HG hE hv;go_enter Tryz.func54, Tryz.ntmps54;go_upto_region 1 with fail;rw [HW0.out];go_upto_region 5 with (first
    | (go_at_call 84; with_reducible refine HFd.out.mono ?_; rintro e w1 ⟨rfl, K1⟩; have HK1 := tHid K1; clear K1)
    | (go_at_call 85; with_reducible refine (HNm.out _ (HN0.out.trans HK1.out)).mono ?_; rintro e w2 ⟨rfl, K2⟩))
   have x1 := HX1.out _ (HK1.out.trans K2.out)
   go_wp2_with (first
    | (go_at_call 52; with_reducible refine (HM.out _).mono ?_; rintro e w3 ⟨rfl, rfl⟩))
   exact HF.out _ _ (HN0.out.trans (HK1.out.trans K2.out)) rfl
  ·have hei : ¬ (E : Int) = 0 := by omega
   have HM := tHid (qmust_bad (q : Nat) (E : Nat) hei);have HG2 : Hid (∀ V, Nw w V → Q (gvR (q : Nat) (E : Nat)) V) := fun V hV => HG.out V r1 E hV rfl he
   clear hf hQ hN0 hP hW0 hR0 HG hE hv he hei HF;go_enter Tryz.func54, Tryz.ntmps54;go_upto_region 1 with fail;rw [HW0.out];go_upto_region 5 with (first
    | (go_at_call 84; with_reducible refine HFd.out.mono ?_; rintro e w1 ⟨rfl, K1⟩; have HK1 := tHid K1; clear K1)
    | (go_at_call 85; with_reducible refine (HNm.out _ (HN0.out.trans HK1.out)).mono ?_; rintro e w2 ⟨rfl, K2⟩))
   have x1 := HX1.out _ (HK1.out.trans K2.out)
   go_wp2_with (first
    | (go_at_call 52; with_reducible refine (HM.out _).mono ?_; rintro e w3 ⟨rfl, rfl⟩))
   exact ⟨rfl, HG2.out _ (HN0.out.trans (HK1.out.trans K2.out))⟩
def IdA (r : Nat × Nat) (q : Nat) (w : World) (e : Ending) (w' : World) : Prop := (r.2 ≠ 0 ∧ e = gvR (q : Nat) (r.2 : Nat) ∧ Nw w w') ∨ (r.2 = 0 ∧ e = .returned (.int .u32 (r.1 : Nat)) ∧ Nw w w')
theorem qsowner_any {X : Nat → Prop} (vP : Value) (P : List Pr) (q : Nat) (k : Bs) (n : Nat) (hn : n ≤ 9223372036854775807) (w : World) (hP : SlR RP X vP P w) (hlen : P.length ≤ 1000000000) (hv : VlB P) (hE : Env w) : Calls Tryz.prog 114 #[.agg #[vP, .int .i64 (q : Nat)], .string (str k), .int .i64 (n : Nat)] w (IdA (idP P k n) q w) := by
 refine asP fun Q hQ => ?_
 obtain ⟨a, c, rfl⟩ := ps_form hP;obtain ⟨W0, hW0⟩ : ∃ W0, w.alloc (.cells #[.slice a P.length c, .int .i64 (q : Nat)] 121) = W0 := ⟨_, rfl⟩;have hN0 : Nw w W0 := by rw [← hW0]; exact (Fr.refl _ _).alloc _
 have hR0 : W0.heap[w.heap.size]? = some (.cells #[.slice a P.length c, .int .i64 (q : Nat)] 121) := by rw [← hW0]; exact newHeap _ _
 have x0 : W0.cell? ⟨w.heap.size, 0, none⟩ = some (.slice a P.length c) := cell_of hR0 0 _ rfl;have x1 : W0.cell? ⟨w.heap.size, 1, none⟩ = some (.int .i64 (q : Nat)) := cell_of hR0 1 _ rfl;have HX1 : Hid (∀ V, Nw W0 V → V.cell? ⟨w.heap.size, 1, none⟩ = some (.int .i64 (q : Nat))) := fun V hV => Nw.cell hV x1
 have HNb := tHid (qsnumber_any (.slice a P.length c) P q k n W0 (hP.nw hN0) hlen hv (hE.nw hN0));have HN0 := tHid hN0;have HW0 := tHid hW0;have HG4 := tHid (qgiveUp_any (q : Nat) 121);unfold NbA at HNb;unfold idP at hQ;generalize nbP P k n = r at *;obtain ⟨r1, E⟩ := r;simp only at HNb hQ;generalize P.length = m at *;by_cases he : E = 0
 ·subst he;rw [if_neg (by simp)] at hQ;by_cases hb : 4294967295 < r1
  ·rw [if_pos hb] at hQ;have HG : Hid (∀ V, Nw w V → Q (gvR (q : Nat) 121) V) := fun V hV => by rw [hQ]; exact .inl ⟨by decide, rfl, hV⟩
   have d1 : (4294967295 : Int) < (r1 : Int) := by omega
   clear hQ hN0 hP hW0 hR0 hE hv hb;go_enter Tryz.func114, Tryz.ntmps114;go_upto_region 1 with fail;rw [HW0.out];go_upto_region 2 with fail;go_at_call 54;with_reducible refine HNb.out.mono ?_
   rintro e w1 (⟨h0, rfl, K1⟩ | ⟨h0, rfl, K1⟩)
   ·exact absurd rfl h0
   have y1 := HX1.out _ K1;have HK1 := tHid K1;clear K1
   go_wp2_with (first
    | (go_at_call 39; with_reducible refine (HG4.out _).mono ?_; rintro x w2 ⟨rfl, rfl⟩))
   exact ⟨rfl, HG.out _ (HN0.out.trans HK1.out)⟩
  ·rw [if_neg hb] at hQ;have HF : Hid (∀ V, Nw w V → Q (.returned (.int .u32 (r1 : Nat))) V) := fun V hV => by rw [hQ]; exact .inr ⟨rfl, rfl, hV⟩
   have d1 : ¬ (4294967295 : Int) < (r1 : Int) := by omega
   have hw : IntKind.u32.wrap (r1 : Int) = (r1 : Int) := by
    simp only [IntKind.wrap, IntKind.bits, IntKind.signed];simp;omega
   clear hQ hN0 hP hW0 hR0 hE hv hb;go_enter Tryz.func114, Tryz.ntmps114;go_upto_region 1 with fail;rw [HW0.out];go_upto_region 2 with fail;go_at_call 54;with_reducible refine HNb.out.mono ?_
   rintro e w1 (⟨h0, rfl, K1⟩ | ⟨h0, rfl, K1⟩)
   ·exact absurd rfl h0
   have HK1 := tHid K1;clear K1
   go_wp2_with fail
   exact HF.out _ (HN0.out.trans HK1.out)
 ·rw [if_pos he] at hQ;have HG : Hid (∀ V, Nw w V → Q (gvR (q : Nat) (E : Nat)) V) := fun V hV => by rw [hQ]; exact .inl ⟨he, rfl, hV⟩
  clear hQ hN0 hP hW0 hR0 hE hv;go_enter Tryz.func114, Tryz.ntmps114;go_upto_region 1 with fail;rw [HW0.out];go_upto_region 2 with fail;go_at_call 54;with_reducible refine HNb.out.mono ?_
  rintro e w1 (⟨h0, rfl, K1⟩ | ⟨h0, rfl, K1⟩)
  ·have HK1 := tHid K1;clear K1
   go_wp2_with fail
   exact ⟨rfl, HG.out _ (HN0.out.trans HK1.out)⟩
  ·exact absurd h0 he
def TmA (r : Int × Nat × Nat) (q : Nat) (w : World) (e : Ending) (w' : World) : Prop := (r.2.2 ≠ 0 ∧ e = gvR (q : Nat) (r.2.2 : Nat) ∧ Nw w w') ∨ (r.2.2 = 0 ∧ e = .returned (.tuple #[.int .i64 r.1, .int .i32 (r.2.1 : Nat)]) ∧ Nw w w')
theorem km_str : str kMtime = ⟨#[109, 116, 105, 109, 101]⟩ := by decide +kernel
theorem qstime_any {X : Nat → Prop} (vP : Value) (P : List Pr) (q : Nat) (t : Int) (w : World) (hP : SlR RP X vP P w) (hlen : P.length ≤ 1000000000) (hv : VlB P) (hE : Env w) : Calls Tryz.prog 115 #[.agg #[vP, .int .i64 (q : Nat)], .int .i64 t] w (TmA (tmP P t) q w) := by
 refine asP fun Q hQ => ?_
 obtain ⟨a, c, rfl⟩ := ps_form hP;obtain ⟨W0, hW0⟩ : ∃ W0, w.alloc (.cells #[.slice a P.length c, .int .i64 (q : Nat)] 121) = W0 := ⟨_, rfl⟩;have hN0 : Nw w W0 := by rw [← hW0]; exact (Fr.refl _ _).alloc _
 have hR0 : W0.heap[w.heap.size]? = some (.cells #[.slice a P.length c, .int .i64 (q : Nat)] 121) := by rw [← hW0]; exact newHeap _ _
 have x0 : W0.cell? ⟨w.heap.size, 0, none⟩ = some (.slice a P.length c) := cell_of hR0 0 _ rfl;have HX1 : Hid (∀ V, Nw W0 V → V.cell? ⟨w.heap.size, 1, none⟩ = some (.int .i64 (q : Nat))) := fun V hV => Nw.cell hV (cell_of hR0 1 _ rfl)
 have HFd := tHid (pfind_any W0 (.slice a P.length c) P kMtime (hP.nw hN0) hlen);rw [km_str] at HFd;have HN0 := tHid hN0;have HW0 := tHid hW0;unfold tmP at hQ;generalize P.length = m at *;cases hf : fndV P kMtime with
 | none =>
  rw [hf] at HFd hQ;simp only [fdV] at HFd hQ;have HF : Hid (∀ V, Nw w V → Q (.returned (.tuple #[.int .i64 t, .int .i32 0])) V) := fun V hV => by rw [hQ]; exact .inr ⟨rfl, rfl, hV⟩
  clear hf hQ hN0 hP hW0 hR0;go_enter Tryz.func115, Tryz.ntmps115;go_upto_region 1 with fail;rw [HW0.out]
  go_wp2_with (first
   | (go_at_call 84; with_reducible refine HFd.out.mono ?_; rintro e w1 ⟨rfl, K1⟩; have HK1 := tHid K1; clear K1))
  exact HF.out _ (HN0.out.trans HK1.out)
 | some v =>
  rw [hf] at HFd hQ;simp only [fdV] at HFd hQ;have hvl : v.length ≤ 140737488351232 := hv _ (fnd_mem hf);have HNm : Hid (∀ V, Nw w V → Calls Tryz.prog 144 #[.string (str v)] V fun e w' => e = .returned (tmV v) ∧ Hid (Nw V w')) := fun V hV => time_any v hvl V (hE.nw hV)
  unfold tmV at HNm;generalize timV v = r at *;obtain ⟨r1, r2, E⟩ := r;simp only at HNm hQ;by_cases he : E = 0
  ·subst he;have HM := tHid (qmust_ok (q : Nat));have HF : Hid (∀ V, Nw w V → Q (.returned (.tuple #[.int .i64 r1, .int .i32 (r2 : Nat)])) V) := fun V hV => by rw [hQ]; exact .inr ⟨rfl, rfl, hV⟩
   clear hf hQ hN0 hP hW0 hR0 hE hv;go_enter Tryz.func115, Tryz.ntmps115;go_upto_region 1 with fail;rw [HW0.out];go_upto_region 5 with (first
    | (go_at_call 84; with_reducible refine HFd.out.mono ?_; rintro e w1 ⟨rfl, K1⟩; have HK1 := tHid K1; clear K1)
    | (go_at_call 144; with_reducible refine (HNm.out _ (HN0.out.trans HK1.out)).mono ?_; rintro e w2 ⟨rfl, K2⟩))
   have x1 := HX1.out _ (HK1.out.trans K2.out)
   go_wp2_with (first
    | (go_at_call 52; with_reducible refine (HM.out _).mono ?_; rintro e w3 ⟨rfl, rfl⟩))
   exact HF.out _ (HN0.out.trans (HK1.out.trans K2.out))
  ·have hei : ¬ (E : Int) = 0 := by omega
   have HM := tHid (qmust_bad (q : Nat) (E : Nat) hei);have HG2 : Hid (∀ V, Nw w V → Q (gvR (q : Nat) (E : Nat)) V) := fun V hV => by rw [hQ]; exact .inl ⟨he, rfl, hV⟩
   clear hf hQ hN0 hP hW0 hR0 hE hv he hei;go_enter Tryz.func115, Tryz.ntmps115;go_upto_region 1 with fail;rw [HW0.out];go_upto_region 5 with (first
    | (go_at_call 84; with_reducible refine HFd.out.mono ?_; rintro e w1 ⟨rfl, K1⟩; have HK1 := tHid K1; clear K1)
    | (go_at_call 144; with_reducible refine (HNm.out _ (HN0.out.trans HK1.out)).mono ?_; rintro e w2 ⟨rfl, K2⟩))
   have x1 := HX1.out _ (HK1.out.trans K2.out)
   go_wp2_with (first
    | (go_at_call 52; with_reducible refine (HM.out _).mono ?_; rintro e w3 ⟨rfl, rfl⟩))
   exact ⟨rfl, HG2.out _ (HN0.out.trans (HK1.out.trans K2.out))⟩
theorem and4095 (n : Int) : bits .and .i64 n 4095 = n % 4096 := by
 have h1 : (BitVec.ofInt 64 4095).toNat = 2 ^ 12 - 1 := by decide
 have h2 : (BitVec.ofInt 64 n &&& BitVec.ofInt 64 4095).toNat = (n % ((2 ^ 64 : Nat) : Int)).toNat % 2 ^ 12 := by
  rw [BitVec.toNat_and, BitVec.toNat_ofInt, h1, Nat.and_two_pow_sub_one_eq_mod]
 show IntKind.i64.wrap ((BitVec.ofInt 64 n &&& BitVec.ofInt 64 4095).toNat : Nat) = n % 4096;rw [h2, IntKind.wrap_i64];omega
theorem ku_str : str kUid = ⟨#[117, 105, 100]⟩ := by decide +kernel
theorem kg_str : str kGid = ⟨#[103, 105, 100]⟩ := by decide +kernel
def mtC (h : Hr) (uid gid : Nat) (t : Int × Nat × Nat) : Array Value := #[.int .u32 ((h.mode % 4096).toNat : Nat), .int .u32 (uid : Nat), .int .u32 (gid : Nat), .int .i64 t.1, .int .i32 (t.2.1 : Nat)]
def MtA (h : Hr) (P : List Pr) (q : Nat) (w : World) (e : Ending) (w' : World) : Prop :=
 Nw w w' ∧ (((idP P kUid h.uid.toNat).2 ≠ 0 ∧ e = gvR (q : Nat) ((idP P kUid h.uid.toNat).2 : Nat)) ∨ ((idP P kUid h.uid.toNat).2 = 0 ∧ (((idP P kGid h.gid.toNat).2 ≠ 0 ∧ e = gvR (q : Nat) ((idP P kGid h.gid.toNat).2 : Nat)) ∨ ((idP P kGid h.gid.toNat).2 = 0 ∧ (((tmP P h.time).2.2 ≠ 0 ∧ e = gvR (q : Nat) ((tmP P h.time).2.2 : Nat)) ∨ ((tmP P h.time).2.2 = 0 ∧ e = .returned (.agg (mtC h (idP P kUid h.uid.toNat).1 (idP P kGid h.gid.toNat).1 (tmP P h.time)))))))))
theorem qsmeta_any {X : Nat → Prop} (vP : Value) (P : List Pr) (q : Nat) (h : Hr) (hu : 0 ≤ h.uid ∧ h.uid ≤ 9223372036854775807) (hg : 0 ≤ h.gid ∧ h.gid ≤ 9223372036854775807) (w : World) (hP : SlR RP X vP P w) (hlen : P.length ≤ 1000000000) (hv : VlB P) (hE : Env w) : Calls Tryz.prog 89 #[.agg #[vP, .int .i64 (q : Nat)], .agg h.C] w (MtA h P q w) := by
 refine asP fun Q hQ => ?_
 obtain ⟨a, c, rfl⟩ := ps_form hP;obtain ⟨sb, hsb⟩ : ∃ sb, w.heap.size = sb := ⟨_, rfl⟩;obtain ⟨hb, hhb⟩ : ∃ hb, sb + 1 = hb := ⟨_, rfl⟩;obtain ⟨ob, hob⟩ : ∃ ob, hb + 1 = ob := ⟨_, rfl⟩;obtain ⟨mb, hmb⟩ : ∃ mb, ob + 1 = mb := ⟨_, rfl⟩;obtain ⟨m, hm⟩ : ∃ m : Nat, (h.mode % 4096).toNat = m := ⟨_, rfl⟩;have hmi : h.mode % 4096 = (m : Int) := by omega
 obtain ⟨W0, hW0⟩ : ∃ W0, ((w.alloc (.cells #[.slice a P.length c, .int .i64 (q : Nat)] 121)).alloc (.cells h.C 62)).alloc (.cells #[.int .u32 0, .int .u32 0, .int .u32 0, .int .i64 0, .int .i32 0] 30) = W0 := ⟨_, rfl⟩;obtain ⟨W1, hW1⟩ : ∃ W1, W0.alloc (.cells #[.int .u32 (m : Nat), .int .u32 0, .int .u32 0, .int .i64 0, .int .i32 0] 30) = W1 := ⟨_, rfl⟩;have s1 : (w.alloc (.cells #[.slice a P.length c, .int .i64 (q : Nat)] 121)).heap.size = sb + 1 := by rw [← hsb]; simp
 have s2 : ((w.alloc (.cells #[.slice a P.length c, .int .i64 (q : Nat)] 121)).alloc (.cells h.C 62)).heap.size = hb + 1 := by rw [← hhb, ← s1]; simp
 have s3 : W0.heap.size = mb := by rw [← hmb, ← hob, ← hW0, ← s2]; simp
 have n0 : Nw w W0 := by rw [← hW0]; exact (((Fr.refl _ _).alloc _).alloc _).alloc _
 have n1 : Nw W0 W1 := by rw [← hW1]; exact (Fr.refl _ _).alloc _
 have rs0 : W0.heap[sb]? = some (.cells #[.slice a P.length c, .int .i64 (q : Nat)] 121) := by rw [← hW0, ← hsb]; exact Nw.heap (((Fr.refl _ _).alloc _).alloc _) (newHeap _ _)
 have rh0 : W0.heap[hb]? = some (.cells h.C 62) := by rw [← hW0, ← hhb, ← s1]; exact Nw.heap ((Fr.refl _ _).alloc _) (newHeap _ _)
 have ro0 : W0.heap[ob]? = some (.cells #[.int .u32 0, .int .u32 0, .int .u32 0, .int .i64 0, .int .i32 0] 30) := by rw [← hW0, ← hob, ← s2]; exact newHeap _ _
 have rm1 : W1.heap[mb]? = some (.cells #[.int .u32 (m : Nat), .int .u32 0, .int .u32 0, .int .i64 0, .int .i32 0] 30) := by rw [← hW1, ← s3]; exact newHeap _ _
 have HFX : Hid (∀ X' V, Fr X' W1 V → (∀ k, X' k → k = mb) → Nw w V ∧ V.cell? ⟨sb, 0, none⟩ = some (.slice a P.length c) ∧ V.cell? ⟨sb, 1, none⟩ = some (.int .i64 (q : Nat)) ∧ V.heap[hb]? = some (.cells h.C 62) ∧ V.heap[ob]? = some (.cells #[.int .u32 0, .int .u32 0, .int .u32 0, .int .i64 0, .int .i32 0] 30)) := fun X' V hf hx => by
  have f : Fr (fun k => k = mb) W1 V := hf.mono (fun i hi => .inl (hx i hi));have f2 : Nw w V := (n0.trans n1).then f (fun i hi => .inr (by omega));exact ⟨f2, cell_of (cell_kept f (Nw.heap n1 rs0) (by omega)) 0 _ rfl, cell_of (cell_kept f (Nw.heap n1 rs0) (by omega)) 1 _ rfl, cell_kept f (Nw.heap n1 rh0) (by omega), cell_kept f (Nw.heap n1 ro0) (by omega)⟩
 have HO : Hid (∀ (k : Bs) (n : Nat) V, n ≤ 9223372036854775807 → Nw w V → Calls Tryz.prog 114 #[.agg #[.slice a P.length c, .int .i64 (q : Nat)], .string (str k), .int .i64 (n : Nat)] V (IdA (idP P k n) q V)) := fun k n V hn hV => qsowner_any _ P q k n hn V (hP.nw hV) hlen hv (hE.nw hV)
 have HT : Hid (∀ V, Nw w V → Calls Tryz.prog 115 #[.agg #[.slice a P.length c, .int .i64 (q : Nat)], .int .i64 h.time] V (TmA (tmP P h.time) q V)) := fun V hV => qstime_any _ P q h.time V (hP.nw hV) hlen hv (hE.nw hV)
 obtain ⟨un, hun⟩ : ∃ un : Nat, h.uid.toNat = un := ⟨_, rfl⟩;obtain ⟨gn, hgn⟩ : ∃ gn : Nat, h.gid.toNat = gn := ⟨_, rfl⟩;have eu : h.uid = (un : Int) := by omega
 have eg : h.gid = (gn : Int) := by omega
 have HU : Hid (∀ V, Nw w V → Calls Tryz.prog 114 #[.agg #[.slice a P.length c, .int .i64 (q : Nat)], .string ⟨#[117, 105, 100]⟩, .int .i64 h.uid] V (IdA (idP P kUid un) q V)) := fun V hV => by
  have := HO.out kUid un V (by omega) hV;rw [ku_str, ← eu] at this;exact this
 have HGi : Hid (∀ V, Nw w V → Calls Tryz.prog 114 #[.agg #[.slice a P.length c, .int .i64 (q : Nat)], .string ⟨#[103, 105, 100]⟩, .int .i64 h.gid] V (IdA (idP P kGid gn) q V)) := fun V hV => by
  have := HO.out kGid gn V (by omega) hV;rw [kg_str, ← eg] at this;exact this
 unfold IdA at HU HGi;unfold TmA at HT;have hQ2 : Q = MtA h P q w := hQ;unfold MtA at hQ2;rw [hun, hgn] at hQ2;generalize idP P kUid un = ru at *;generalize idP P kGid gn = rg at *;generalize tmP P h.time = rt at *;obtain ⟨u1, u2⟩ := ru;obtain ⟨g1, g2⟩ := rg;obtain ⟨t1, t2, t3⟩ := rt;simp only at HU HGi HT hQ2;have HQU : Hid (∀ V, Nw w V → u2 ≠ 0 → Q (gvR (q : Nat) (u2 : Nat)) V) := fun V hV h0 => by rw [hQ2]; exact ⟨hV, .inl ⟨h0, rfl⟩⟩
 have HQG : Hid (∀ V, Nw w V → u2 = 0 → g2 ≠ 0 → Q (gvR (q : Nat) (g2 : Nat)) V) := fun V hV h0 h1 => by rw [hQ2]; exact ⟨hV, .inr ⟨h0, .inl ⟨h1, rfl⟩⟩⟩
 have HQT : Hid (∀ V, Nw w V → u2 = 0 → g2 = 0 → t3 ≠ 0 → Q (gvR (q : Nat) (t3 : Nat)) V) := fun V hV h0 h1 h2 => by rw [hQ2]; exact ⟨hV, .inr ⟨h0, .inr ⟨h1, .inl ⟨h2, rfl⟩⟩⟩⟩
 have HQO : Hid (∀ V, Nw w V → u2 = 0 → g2 = 0 → t3 = 0 → Q (.returned (.agg #[.int .u32 (m : Nat), .int .u32 (u1 : Nat), .int .u32 (g1 : Nat), .int .i64 t1, .int .i32 (t2 : Nat)])) V) := fun V hV h0 h1 h2 => by
  rw [hQ2];refine ⟨hV, .inr ⟨h0, .inr ⟨h1, .inr ⟨h2, ?_⟩⟩⟩⟩;unfold mtC;rw [hm]
 have ha := and4095 h.mode;rw [hmi] at ha;have hw4 : IntKind.u32.wrap (m : Int) = (m : Int) := by rw [IntKind.wrap_u32]; omega
 have hc3 : W0.cell? ⟨hb, 3, none⟩ = some (.int .i64 h.mode) := cell_of rh0 3 _ rfl;have HW0 := tHid hW0;have HM1 := tHid rm1;have HS3 := tHid s3;have HW1 := tHid hW1;obtain ⟨y1, y2, y3, y4, y5⟩ := HFX.out _ W1 (Fr.refl (fun _ => False) W1) (fun k h => h.elim);have HY1 := tHid y1;have HY4 := tHid y4;have z4 : W1.cell? ⟨hb, 4, none⟩ = some (.int .i64 h.uid) := cell_of y4 4 _ rfl;clear hQ hQ2 hP hE hv hlen n0 n1 rs0 rh0 ro0 rm1 hW0 hW1 y1 y4 y5 s1 s2 s3 hm hun hgn eu eg hmi HO hu hg;unfold Hr.C at HW0;unfold Hr.C;generalize P.length = pn at *;go_enter Tryz.func89, Tryz.ntmps89
 go_upto_region 1 with fail
 rw [HW0.out];go_upto_region 2 with fail;rw [HW1.out, HS3.out];go_upto_region 3 with fail;go_at_call 114;with_reducible refine (HU.out _ HY1.out).mono ?_
 rintro e w2 (⟨h0, rfl, K2⟩ | ⟨h0, rfl, K2⟩)
 ·have HE := tHid (HQU.out _ (HY1.out.trans K2) h0);clear K2
  go_wp2_with fail
  exact ⟨rfl, HE.out⟩
 have HK2 := tHid K2;have HU0 := tHid h0;have m2 : w2.heap[mb]? = some (.cells #[.int .u32 (m : Nat), .int .u32 0, .int .u32 0, .int .i64 0, .int .i32 0] 30) := Nw.heap K2 HM1.out;have a1 := cell_of m2 1 _ rfl;have a2 := row_froz m2 1 _ rfl;obtain ⟨W3, hW3⟩ : ∃ W3, w2.setCell ⟨mb, 1, none⟩ (.int .u32 (u1 : Nat)) = W3 := ⟨_, rfl⟩;have f3 : Fr (fun k => k = mb) W1 W3 := by rw [← hW3]; exact (K2.any).then ((Fr.refl _ _).setCell ⟨mb, 1, none⟩ _ (.inl rfl) : Fr (fun k => k = mb) w2 _) (fun i hi => .inl hi)
 have HM3 : Hid (W3.heap[mb]? = some (.cells #[.int .u32 (m : Nat), .int .u32 (u1 : Nat), .int .u32 0, .int .i64 0, .int .i32 0] 30)) := by
  have := row_setN m2 1 (.int .u32 (u1 : Nat));rw [hW3] at this;exact this
 obtain ⟨v1, v2, v3, v4, v5⟩ := HFX.out _ W3 f3 (fun k h => h);have HV1 := tHid v1;have z5 : W3.cell? ⟨hb, 5, none⟩ = some (.int .i64 h.gid) := cell_of v4 5 _ rfl;have HF3 := tHid f3;clear K2 h0 m2 f3 v1 v4 v5 HU HQU HM1 HY1 HY4 y2 y3;go_upto_region 4 with fail;go_at_call 114;with_reducible refine (HGi.out _ HV1.out).mono ?_
 rintro e w4 (⟨h0, rfl, K4⟩ | ⟨h0, rfl, K4⟩)
 ·have HE := tHid (HQG.out _ (HV1.out.trans K4) HU0.out h0);clear K4
  go_wp2_with fail
  exact ⟨rfl, HE.out⟩
 have HG0 := tHid h0;have m4 : w4.heap[mb]? = some (.cells #[.int .u32 (m : Nat), .int .u32 (u1 : Nat), .int .u32 0, .int .i64 0, .int .i32 0] 30) := Nw.heap K4 HM3.out;have a3 := cell_of m4 2 _ rfl;have a4 := row_froz m4 2 _ rfl;obtain ⟨W5, hW5⟩ : ∃ W5, w4.setCell ⟨mb, 2, none⟩ (.int .u32 (g1 : Nat)) = W5 := ⟨_, rfl⟩;have f5 : Fr (fun k => k = mb) W1 W5 := by rw [← hW5]; exact (HF3.out.trans K4.any).then ((Fr.refl _ _).setCell ⟨mb, 2, none⟩ _ (.inl rfl) : Fr (fun k => k = mb) w4 _) (fun i hi => .inl hi)
 have HM5 : Hid (W5.heap[mb]? = some (.cells #[.int .u32 (m : Nat), .int .u32 (u1 : Nat), .int .u32 (g1 : Nat), .int .i64 0, .int .i32 0] 30)) := by
  have := row_setN m4 2 (.int .u32 (g1 : Nat));rw [hW5] at this;exact this
 obtain ⟨x1, x2, x3, x4, x5⟩ := HFX.out _ W5 f5 (fun k h => h);have HX1 := tHid x1;have z7 : W5.cell? ⟨hb, 7, none⟩ = some (.int .i64 h.time) := cell_of x4 7 _ rfl;have HF5 := tHid f5;clear K4 h0 m4 f5 x1 x4 x5 HGi HQG HM3 HV1 v2 v3 HF3 a1 a2 hW3 z5;go_upto_region 5 with fail;go_at_call 115;with_reducible refine (HT.out _ HX1.out).mono ?_
 rintro e w6 (⟨h0, rfl, K6⟩ | ⟨h0, rfl, K6⟩)
 ·have HE := tHid (HQT.out _ (HX1.out.trans K6) HU0.out HG0.out h0);clear K6
  go_wp2_with fail
  exact ⟨rfl, HE.out⟩
 have m6 : w6.heap[mb]? = some (.cells #[.int .u32 (m : Nat), .int .u32 (u1 : Nat), .int .u32 (g1 : Nat), .int .i64 0, .int .i32 0] 30) := Nw.heap K6 HM5.out;have b3 := cell_of m6 3 _ rfl;have b4 := row_froz m6 3 _ rfl;obtain ⟨W7, hW7⟩ : ∃ W7, w6.setCell ⟨mb, 3, none⟩ (.int .i64 t1) = W7 := ⟨_, rfl⟩;have m7 : W7.heap[mb]? = some (.cells #[.int .u32 (m : Nat), .int .u32 (u1 : Nat), .int .u32 (g1 : Nat), .int .i64 t1, .int .i32 0] 30) := by
  have := row_setN m6 3 (.int .i64 t1);rw [hW7] at this;exact this
 have b5 := cell_of m7 4 _ rfl;have b6 := row_froz m7 4 _ rfl;obtain ⟨W8, hW8⟩ : ∃ W8, W7.setCell ⟨mb, 4, none⟩ (.int .i32 (t2 : Nat)) = W8 := ⟨_, rfl⟩;have m8 : W8.heap[mb]? = some (.cells #[.int .u32 (m : Nat), .int .u32 (u1 : Nat), .int .u32 (g1 : Nat), .int .i64 t1, .int .i32 (t2 : Nat)] 30) := by
  have := row_setN m7 4 (.int .i32 (t2 : Nat));rw [hW8] at this;exact this
 have f8 : Fr (fun k => k = mb) W1 W8 := by
  rw [← hW8, ← hW7];exact ((HF5.out.trans K6.any).then ((Fr.refl _ _).setCell ⟨mb, 3, none⟩ _ (.inl rfl) : Fr (fun k => k = mb) w6 _) (fun i hi => .inl hi)).then ((Fr.refl _ _).setCell ⟨mb, 4, none⟩ _ (.inl rfl) : Fr (fun k => k = mb) _ _) (fun i hi => .inl hi)
 obtain ⟨p1, p2, p3, p4, p5⟩ := HFX.out _ W8 f8 (fun k h => h);have c0 := cell_of m8 0 _ rfl;have c1 := cell_of m8 1 _ rfl;have c2 := cell_of m8 2 _ rfl;have c3 := cell_of m8 3 _ rfl;have c4 := cell_of m8 4 _ rfl;have HP5 := tHid p5;have hq9 : (W8.setRow ob #[.int .u32 (m : Nat), .int .u32 (u1 : Nat), .int .u32 (g1 : Nat), .int .i64 t1, .int .i32 (t2 : Nat)]).heap[ob]? = some (.cells #[.int .u32 (m : Nat), .int .u32 (u1 : Nat), .int .u32 (g1 : Nat), .int .i64 t1, .int .i32 (t2 : Nat)] 30) := setRow_heap _ _ _ _ 30 _ p5
 obtain ⟨W9, hW9⟩ : ∃ W9, W8.setRow ob #[.int .u32 (m : Nat), .int .u32 (u1 : Nat), .int .u32 (g1 : Nat), .int .i64 t1, .int .i32 (t2 : Nat)] = W9 := ⟨_, rfl⟩;rw [hW9] at hq9;have HE9 : Hid (∀ tmps : Array Value, tmps.getD 4 undef = .pointer (some ⟨ob, 0, none⟩) → bodyPost Tryz.prog Tryz.f89 Q .ret ⟨tmps, []⟩ W9) := fun tmps g4 => by
  refine bodyPost_ret (results_cell_row (P := Tryz.prog) (p := 4) (ty := 30) rfl _ _ ob 30 _ (0, 0) _ g4 hq9 Tryz.underlying30 rfl (by kernel_rfl)) rfl ?_;refine HQO.out W9 ?_ HU0.out HG0.out h0;rw [← hW9];exact p1.then ((Fr.refl _ _).setRow ob _ (.inl rfl) : Fr (fun k => k = ob) W8 _) (fun i hi => .inr (by omega))
 have HI5 : Hid ((Tryz.prog.info? 30).map (·.size) = some (#[.int .u32 (m : Nat), .int .u32 (u1 : Nat), .int .u32 (g1 : Nat), .int .i64 t1, .int .i32 (t2 : Nat)] : Array Value).size ∧ (#[.int .u32 0, .int .u32 0, .int .u32 0, .int .i64 0, .int .i32 0] : Array Value).size = (#[.int .u32 (m : Nat), .int .u32 (u1 : Nat), .int .u32 (g1 : Nat), .int .i64 t1, .int .i32 (t2 : Nat)] : Array Value).size ∧ (#[.int .u32 (m : Nat), .int .u32 (u1 : Nat), .int .u32 (g1 : Nat), .int .i64 t1, .int .i32 (t2 : Nat)] : Array Value).all (·.oneCell') = true) := by
  have q1 : (Tryz.prog.info? 30).map (·.size) = some 5 := by kernel_rfl
  exact ⟨q1, rfl, by simp [Value.oneCell']⟩
 have HW9 := tHid hW9;clear hW9;clear K6 m6 m7 m8 f8 p1 p2 p3 p4 p5 hq9 HFX HT HQT HQO HM5 HX1 HF5 x2 x3 z7 hW5 a3 a4
 go_wp2_with (first
  | (refine wpList_store_row rfl 30 _ _ rfl ob #[.int .u32 (m : Nat), .int .u32 (u1 : Nat), .int .u32 (g1 : Nat), .int .i64 t1, .int .i32 (t2 : Nat)] (by first | rfl | simp [Act.eval]) (by first | rfl | simp [Act.eval]) 30 _ HP5.out HI5.out.1 HI5.out.2.1 HI5.out.2.2 ?_; rw [HW9.out]))
 exact HE9.out _ rfl
end Go.Proofs.YtlenihpbhlfcoaaGreatDoor
