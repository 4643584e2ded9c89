import Derived.Test.YtffhpoilifgcdaaDoorVbk
import Derived.Lib.SliceRun
import Derived.Lib.MinMax
namespace Go.Proofs.YtffhpoilifgcdaaDoor
open Go.RowKit
set_option linter.unusedVariables false
/-! ### The table of a record: put -/
theorem rc_set (R : List By) (o : Nat) (y : By) : (rc R).setIfInBounds o (bv y) = rc (R.set o y) := by
  unfold rc
  rw [List.map_set]
  simp
theorem RcO.set1 {g : Nat} {R : List By} {w : World} (h : RcO g R w) (o : Nat) (y : By) : RcO g (R.set o y) (w.setCell ⟨g, o, none⟩ (bv y)) := by
  unfold RcO at h ⊢
  rw [row_set15 h o (bv y), rc_set]
theorem pto_cons (R : List By) (o : Nat) (y : By) (L : List By) (h : o + (L.length + 1) ≤ R.length) : pto (R.set o y) (o + 1) L = pto R o (y :: L) := by
  apply List.ext_getElem?
  intro j
  rw [pto_at _ _ _ (by rw [List.length_set]; omega), pto_at _ _ _ (by rw [List.length_cons]; exact h), List.length_cons]
  by_cases h1 : o + 1 ≤ j ∧ j < o + 1 + L.length
  · rw [if_pos h1, if_pos (by omega)]
    obtain ⟨k, rfl⟩ : ∃ k, j = o + 1 + k := ⟨j - (o + 1), by omega⟩
    rw [show o + 1 + k - (o + 1) = k by omega, show o + 1 + k - o = k + 1 by omega, List.getElem?_cons_succ]
  · rw [if_neg h1]
    by_cases h2 : j = o
    · subst h2
      rw [if_pos (by omega), Nat.sub_self, List.getElem?_cons_zero, List.getElem?_set_self (by omega)]
    · rw [if_neg (by omega), List.getElem?_set_ne (by omega)]
theorem pto_nil (R : List By) (o : Nat) : pto R o [] = R := by unfold pto; simp
theorem RcO.setCells {g : Nat} {R : List By} {w : World} (h : RcO g R w) (L : List By) (o : Nat) (hl : o + L.length ≤ R.length) : RcO g (pto R o L) (w.setCells g o (L.map bv)) ∧ Fr (fun k => k = g) w (w.setCells g o (L.map bv)) := by
  induction L generalizing R w o with
  | nil => rw [pto_nil]; exact ⟨h, Fr.refl _ _⟩
  | cons y L ih =>
    have h1 := h.set1 o y
    obtain ⟨i1, i2⟩ := ih h1 (o + 1) (by rw [List.length_set]; simp only [List.length_cons] at hl; omega)
    rw [pto_cons R o y L (by simpa using hl)] at i1
    exact ⟨i1, ((Fr.refl (fun k => k = g) w).setCell ⟨g, o, none⟩ _ (.inl rfl)).trans i2⟩
def z8 (n : Nat) : List By := List.replicate n 0#8
theorem z8_len (n : Nat) : (z8 n).length = n := by simp [z8]
theorem z8_add (a b : Nat) : z8 (a + b) = z8 a ++ z8 b := by unfold z8; rw [List.replicate_append_replicate]
theorem z8_bv (n : Nat) : (z8 n).map bv = List.replicate n (.int .u8 0) := by simp [z8, bv]
theorem clr_any {g : Nat} {R : List By} {w : World} (h : RcO g R w) (hR : R.length = 512) (f n c : Nat) (hn : 0 < n) (hf : f + n ≤ 512) : ∃ W, (∀ ty, (Builtin.clear_ #[23] ty #[.slice (some ⟨g, f, none⟩) n c]).run Tryd.prog w = .ok (.tuple #[]) W) ∧ RcO g (pto R f (z8 n)) W ∧ Fr (fun k => k = g) w W := by
  have hs := h.setCells (z8 n) f (by rw [z8_len]; omega)
  rw [z8_bv] at hs
  refine ⟨_, fun ty => Lib.run_clear_slice w 23 5 ty (.int .u8 0) Tryd.underlying23 (fun w => by kernel_rfl) rfl rfl g f n c hn (fun j hj => ?_) (fun j hj => ?_), hs.1, hs.2⟩
  · rw [h.at (f + j) (by omega)]; rfl
  · unfold RcO at h
    simp [World.frozen?, h]
/-- A range as its slot. -/
def slB (x : Rg) : List By := pnL x.1 12 ++ pnL (x.2 - x.1) 12
def OkG (x : Rg) : Prop := 0 ≤ x.1 ∧ x.1 ≤ x.2 ∧ x.2 ≤ 9223372036854775807
theorem slB_len (x : Rg) (h : OkG x) : (slB x).length = 24 := by
  obtain ⟨h1, h2, h3⟩ := h
  unfold slB
  rw [List.length_append, (pn12 x.1 h1 (by omega)).2.1, (pn12 (x.2 - x.1) (by omega) (by omega)).2.1]
def slots (l : List Rg) : List By := (l.map slB).flatten
theorem slots_len (l : List Rg) (h : ∀ x ∈ l, OkG x) : (slots l).length = l.length * 24 := by
  induction l with
  | nil => rfl
  | cons x r ih =>
    unfold slots at ih ⊢
    rw [List.map_cons, List.flatten_cons, List.length_append, slB_len x (h x (by simp)), ih (fun y hy => h y (by simp [hy])), List.length_cons]
    omega
theorem slots_snoc (l : List Rg) (x : Rg) : slots (l ++ [x]) = slots l ++ slB x := by unfold slots; simp
def flg (r : Nat) (l : List Rg) : By := if r < l.length then 1#8 else 0#8
/-- The table when i ranges stand in it. -/
def tabI (r : Nat) (l : List Rg) (i : Nat) : List By := slots (l.take i) ++ (z8 ((r - i) * 24) ++ [flg r l])
theorem take_ok {l : List Rg} (h : ∀ x ∈ l, OkG x) (i : Nat) : ∀ x ∈ l.take i, OkG x := fun x hx => h x (List.mem_of_mem_take hx)
theorem tabI_len (r : Nat) (l : List Rg) (h : ∀ x ∈ l, OkG x) (i : Nat) (hi : i ≤ r) (hil : i ≤ l.length) : (tabI r l i).length = r * 24 + 1 := by
  unfold tabI
  rw [List.length_append, slots_len _ (take_ok h i), List.length_append, z8_len, List.length_take, Nat.min_eq_left hil, List.length_singleton]
  have : i * 24 + (r - i) * 24 = r * 24 := by rw [← Nat.add_mul]; congr 1; omega
  omega
theorem pto_pto (R A : List By) (f o : Nat) (B : List By) (h1 : o + B.length ≤ A.length) (h2 : f + A.length ≤ R.length) : pto (pto R f A) (f + o) B = pto R f (pto A o B) := by
  apply List.ext_getElem?
  intro j
  have hA : (pto A o B).length = A.length := pto_len A B o h1
  rw [pto_at _ _ _ (by rw [pto_len _ _ _ h2]; omega), pto_at _ _ _ h2, pto_at _ _ _ (by rw [hA]; exact h2), hA]
  by_cases h3 : f ≤ j ∧ j < f + A.length
  · rw [if_pos h3, if_pos h3, pto_at _ _ _ h1]
    by_cases h4 : f + o ≤ j ∧ j < f + o + B.length
    · rw [if_pos h4, if_pos (by omega)]
      congr 1; omega
    · rw [if_neg h4, if_neg (by omega)]
  · rw [if_neg h3, if_neg h3, if_neg (by omega)]
theorem pto_mid (A X B Y : List By) (o : Nat) (ho : A.length = o) (h : Y.length = X.length) : pto (A ++ (X ++ B)) o Y = A ++ (Y ++ B) := by
  unfold pto
  subst ho
  rw [List.take_left, h, ← List.drop_drop, List.drop_left, List.drop_left]
theorem tab_step (R : List By) (hR : R.length = 512) (f r : Nat) (hfr : f + r * 24 < 512) (l : List Rg) (h : ∀ x ∈ l, OkG x) (i : Nat) (hi : i < r) (hil : i < l.length) :
    pto (pto (pto R f (tabI r l i)) (f + i * 24) (pnL l[i].1 12)) (f + i * 24 + 12) (pnL (l[i].2 - l[i].1) 12) = pto R f (tabI r l (i + 1)) := by
  obtain ⟨x1, x2, x3⟩ := h l[i] (List.getElem_mem hil)
  have n1 := (pn12 l[i].1 x1 (by omega)).2.1
  have n2 := (pn12 (l[i].2 - l[i].1) (by omega) (by omega)).2.1
  have hlen := tabI_len r l h i (by omega) (by omega)
  have hs := slots_len _ (take_ok h i)
  rw [List.length_take, Nat.min_eq_left (by omega)] at hs
  have hz : (r - i) * 24 = 12 + (12 + (r - (i + 1)) * 24) := by
    obtain ⟨k, hk⟩ : ∃ k, r - i = k + 1 := ⟨r - i - 1, by omega⟩
    rw [hk, show r - (i + 1) = k by omega]
    omega
  have e1 : tabI r l i = slots (l.take i) ++ (z8 12 ++ (z8 12 ++ (z8 ((r - (i + 1)) * 24) ++ [flg r l]))) := by
    unfold tabI
    rw [hz, z8_add, z8_add]
    simp
  rw [pto_pto R _ f (i * 24) _ (by omega) (by omega)]
  have e2 : pto (tabI r l i) (i * 24) (pnL l[i].1 12) = slots (l.take i) ++ (pnL l[i].1 12 ++ (z8 12 ++ (z8 ((r - (i + 1)) * 24) ++ [flg r l]))) := by
    rw [e1]
    exact pto_mid _ _ _ _ _ hs (by rw [n1, z8_len])
  have l2 : (pto (tabI r l i) (i * 24) (pnL l[i].1 12)).length = r * 24 + 1 := by rw [pto_len _ _ _ (by omega)]; exact hlen
  rw [Nat.add_assoc, pto_pto R _ f (i * 24 + 12) _ (by omega) (by omega)]
  congr 1
  rw [e2]
  have e3 : slots (l.take i) ++ (pnL l[i].1 12 ++ (z8 12 ++ (z8 ((r - (i + 1)) * 24) ++ [flg r l]))) = (slots (l.take i) ++ pnL l[i].1 12) ++ (z8 12 ++ (z8 ((r - (i + 1)) * 24) ++ [flg r l])) := by simp
  rw [e3, pto_mid _ _ _ _ _ (by rw [List.length_append, hs, n1]) (by rw [n2, z8_len])]
  unfold tabI
  rw [List.take_add_one, List.getElem?_eq_getElem hil, Option.toList_some, slots_snoc]
  unfold slB
  simp
theorem tab_start (R : List By) (hR : R.length = 512) (f r : Nat) (hfr : f + r * 24 < 512) (l : List Rg) : (r < l.length → (pto R f (z8 (r * 24 + 1))).set (f + r * 24) 1#8 = pto R f (tabI r l 0)) ∧ (¬ r < l.length → pto R f (z8 (r * 24 + 1)) = pto R f (tabI r l 0)) := by
  have e0 : z8 (r * 24 + 1) = z8 (r * 24) ++ [0#8] := by rw [z8_add]; rfl
  constructor
  · intro h
    have e1 : (pto R f (z8 (r * 24 + 1))).set (f + r * 24) 1#8 = pto (pto R f (z8 (r * 24 + 1))) (f + r * 24) [1#8] := by
      rw [← pto_cons _ _ _ _ (by rw [pto_len _ _ _ (by rw [z8_len]; omega)]; simp; omega), pto_nil]
    rw [e1, pto_pto R _ f (r * 24) _ (by rw [z8_len]; simp) (by rw [z8_len]; omega), e0]
    have := pto_mid (z8 (r * 24)) [0#8] [] [1#8] (r * 24) (z8_len _) rfl
    simp only [List.append_nil] at this
    rw [this]
    unfold tabI flg
    rw [if_pos h]
    simp [slots]
  · intro h
    unfold tabI flg
    rw [if_neg h, e0]
    simp [slots]
end Go.Proofs.YtffhpoilifgcdaaDoor

namespace Go.Proofs.YtffhpoilifgcdaaDoor
open Go.RowKit
set_option linter.unusedVariables false
/-! ### The table of a record: put, walked -/
def clrT (tys : Array TypeId) (ty : TypeId) (args : Array Value) : Sem Value := Builtin.clear_ tys ty args
theorem clrT_fold (tys : Array TypeId) (ty : TypeId) (args : Array Value) : Builtin.clear_ tys ty args = clrT tys ty args := rfl
theorem slpG (g F F2 : Nat) (b1 : F ≤ F2) (b2 : F2 ≤ 512) (b3 : F < 512) (W : World) : (Instr.sliceAt 36 (.pointer (some ⟨g, 0, none⟩)) (some (.int .i64 (F : Int))) (some (.int .i64 (F2 : Int))) none).run Tryd.prog W = .ok (.slice (some ⟨g, F, none⟩) (F2 - F) (512 - F)) W := by
  have hal : Tryd.prog.arrayLen 36 = 512 := by simp [Program.arrayLen, Tryd.underlying36]
  rw [run_sliceAt_array_lh W 36 ⟨g, 0, none⟩ (by simp [Program.arrayLen, Program.elem, Tryd.underlying36]) .i64 .i64 (F : Int) (F2 : Int) (by omega) (by omega) (by rw [hal]; omega)]
  have h5 : ¬ 512 = F := by omega
  go_simp
theorem slpL (g F : Nat) (b3 : F < 512) (W : World) : (Instr.sliceAt 36 (.pointer (some ⟨g, 0, none⟩)) (some (.int .i64 (F : Int))) none none).run Tryd.prog W = .ok (.slice (some ⟨g, F, none⟩) (512 - F) (512 - F)) W := by
  have hal : Tryd.prog.arrayLen 36 = 512 := by simp [Program.arrayLen, Tryd.underlying36]
  rw [run_sliceAt_array_l W 36 ⟨g, 0, none⟩ (by simp [Program.arrayLen, Program.elem, Tryd.underlying36]) .i64 (F : Int) (by omega) (by rw [hal]; omega)]
  have h5 : ¬ 512 = F := by omega
  go_simp
theorem SlR.dropG {X : Nat → Prop} {g o n c : Nat} {l : List Rg} {w : World} (h : SlR RG X (.slice (some ⟨g, o, none⟩) n c) l w) (p : Nat) (hp : p ≤ l.length) : SlR RG X (.slice (some ⟨g, o + p * 2, none⟩) (n - p) (c - p)) (l.drop p) w := by
  rcases h with ⟨a, e, hl⟩ | ⟨g', o', c', h1, e, h3, h4, h5⟩
  · injection e with e1 e2 e3
    subst hl
    have : p = 0 := by simpa using hp
    subst this e3 e2
    exact .inl ⟨_, rfl, by simp⟩
  · injection e with e1 e2 e3
    injection e1 with e1
    injection e1 with e1 e4 _
    subst e1 e2 e3 e4
    refine .inr ⟨g, o + p * 2, c - p, h1, by rw [List.length_drop], by rw [List.length_drop]; omega, by omega, fun i x j u h6 h7 => ?_⟩
    rw [List.getElem?_drop] at h6
    have := h5 (p + i) x j u h6 h7
    rw [← this]
    congr 2
    simp only [RG]
    omega
attribute [local go_sem ↓] clrT_fold
def KpA (X : Nat → Prop) (w : World) (g : Nat) (R : List By) (f r : Nat) (l : List Rg) (e : Ending) (V : World) : Prop := ∃ a n c, e = .returned (.tuple #[.slice a n c, .bool true]) ∧ Hid (RcO g (pto R f (tabI r l (min l.length r))) V ∧ Fr (fun k => k = g) w V ∧ SlR RG X (.slice a n c) (l.drop r) V)
set_option maxHeartbeats 16000000 in
set_option maxRecDepth 100000 in
theorem kput_any (X : Nat → Prop) (w : World) (g : Nat) (hX : X g) (R : List By) (hR : R.length = 512) (hg : RcO g R w) (f r : Nat) (hfr : f + r * 24 < 512) (l : List Rg) (hok : ∀ x ∈ l, OkG x) (a : Option Addr) (n c : Nat) (hl : SlR RG X (.slice a n c) l w) :
    Calls Tryd.prog 32 #[.agg #[.int .i64 (f : Int), .int .i64 (r : Int)], .pointer (some ⟨g, 0, none⟩), .slice a n c] w (KpA X w g R f r l) := by
  obtain ⟨P, hP⟩ : ∃ P : Ending → World → Prop, P = KpA X w g R f r l := ⟨_, rfl⟩
  rw [← hP]
  obtain ⟨a', c', e, m1, m2, mf⟩ := hl.form
  injection e with e1 e2 e3
  subst e1 e2 e3
  have HMF := tHid mf
  clear mf
  obtain ⟨tb, htb⟩ : ∃ tb, w.heap.size = tb := ⟨_, rfl⟩
  obtain ⟨W1, hW1⟩ : ∃ W1, w.alloc (.cells #[.int .i64 (f : Int), .int .i64 (r : Int)] 62) = W1 := ⟨_, rfl⟩
  have hN1 : Nw w W1 := by rw [← hW1]; exact (Fr.refl _ _).alloc _
  have ht1 : W1.heap[tb]? = some (.cells #[.int .i64 (f : Int), .int .i64 (r : Int)] 62) := by rw [← hW1, ← htb]; exact nHeap _ _
  have hgt : g ≠ tb := by have := (Array.getElem?_eq_some_iff.1 hg).1; omega
  obtain ⟨E, hE⟩ : ∃ E, f + r * 24 = E := ⟨_, rfl⟩
  obtain ⟨E1, hE1⟩ : ∃ E1, E + 1 = E1 := ⟨_, rfl⟩
  have hEi : (E : Int) + 1 = (E1 : Int) := by omega
  have hE5 : (E1 : Int) ≤ 512 := by omega
  have hE6 : (E : Int) < 512 := by omega
  have hwE : IntKind.i64.wrap (E1 : Int) = (E1 : Int) := by rw [IntKind.wrap_i64]; omega
  have hsl := slpG g f E1 (by omega) (by omega) (by omega)
  have HEnd : Hid (∀ V, Calls Tryd.prog 44 #[.agg #[.int .i64 (f : Int), .int .i64 (r : Int)]] V fun e w' => e = .returned (.int .i64 (E : Int)) ∧ Hid (Nw V w')) := fun V => by
    have := kend_any V f r (by omega)
    rw [hE] at this
    exact this
  have HT : Hid (∀ V, Fr (fun k => k = g) W1 V → V.cell? ⟨tb, 0, none⟩ = some (.int .i64 (f : Int)) ∧ V.cell? ⟨tb, 1, none⟩ = some (.int .i64 (r : Int))) := fun V hV => by
    obtain ⟨⟨u0, _⟩, ⟨u2, _⟩⟩ := two_cells (hV.heapv ht1 (fun e => hgt e.symm))
    exact ⟨u0, u2⟩
  have hg1 : RcO g R W1 := Nw.heap hN1 hg
  have HL1 : Hid (∀ V, Fr (fun k => k = g) W1 V → SlR RG X (.slice a l.length c) l V) := fun V hV => (hl.nw hN1).kept hV (fun k h => h ▸ hX)
  have HQ1 : Hid (Calls Tryd.prog 44 #[.agg #[.int .i64 (f : Int), .int .i64 (r : Int)]] W1.drew fun e w4 => e = .returned (.int .i64 (E : Int)) ∧ (w4.cell? ⟨tb, 0, none⟩ = some (.int .i64 (f : Int)) ∧ w4.cell? ⟨tb, 1, none⟩ = some (.int .i64 (r : Int))) ∧ ∃ W5, (∀ ty, (clrT #[23] ty #[.slice (some ⟨g, f, none⟩) (E1 - f) (512 - f)]).run Tryd.prog w4 = .ok (.tuple #[]) W5) ∧ (W5.cell? ⟨tb, 0, none⟩ = some (.int .i64 (f : Int)) ∧ W5.cell? ⟨tb, 1, none⟩ = some (.int .i64 (r : Int))) ∧ Hid (RcO g (pto R f (z8 (r * 24 + 1))) W5 ∧ Fr (fun k => k = g) W1 W5)) := by
    refine (HEnd.out W1.drew).mono ?_
    rintro e w4 ⟨rfl, K⟩
    have kd : Nw W1 w4 := Nw.trans (b := W1.drew) ((Fr.refl _ _).drew) K.out
    obtain ⟨W5, c1, c2, c3⟩ := clr_any (Nw.heap kd hg1) hR f (E1 - f) (512 - f) (by omega) (by omega)
    have hF5 : Fr (fun k => k = g) W1 W5 := kd.any.trans c3
    rw [show E1 - f = r * 24 + 1 by omega] at c1 c2
    exact ⟨rfl, HT.out _ kd.any, W5, by rw [show E1 - f = r * 24 + 1 by omega]; exact c1, HT.out _ hF5, c2, hF5⟩
  have HFin : Hid (∀ V a' n' c', RcO g (pto R f (tabI r l (min l.length r))) V → Fr (fun k => k = g) W1 V → SlR RG X (.slice a' n' c') (l.drop r) V → P (.returned (.tuple #[.slice a' n' c', .bool true])) V) := fun V a' n' c' h1 h2 h3 => by
    rw [hP]
    exact ⟨a', n', c', rfl, h1, hN1.any.trans h2, h3⟩
  clear hP hg ht1 hg1
  obtain ⟨q0, q1⟩ := HT.out W1 (Fr.refl _ _)
  go_enter Tryd.func32, Tryd.ntmps32
  go_upto_region 1 with fail
  go_region_held3 (fun w' => w'.cell? ⟨tb, 0, none⟩ = some (.int .i64 (f : Int)) ∧ w'.cell? ⟨tb, 1, none⟩ = some (.int .i64 (r : Int)))
    (first | assumption | exact ⟨q0, q1⟩)
    (first | (go_at_call 44; with_reducible refine HQ1.out.mono ?_; rintro e w4 ⟨rfl, k4, W5, hcl, k5, K5⟩))
  clear HQ1 hcl k4 hsl
  obtain ⟨H, hH⟩ : ∃ H, min l.length r = H := ⟨_, rfl⟩
  have hHI : (if (l.length : Int) ≤ (r : Int) then (l.length : Int) else (r : Int)) = (H : Int) := by split <;> omega
  have hmn : min (l.length : Int) (r : Int) = (H : Int) := by omega
  have hHl : H ≤ l.length := by omega
  have hHr : H ≤ r := by omega
  rw [hH] at HFin
  have HIFF : Hid (H < l.length ↔ r < l.length) := by show (H < l.length ↔ r < l.length); omega
  have HDR : Hid (l.drop H = l.drop r) := by
    show l.drop H = l.drop r
    by_cases h : r ≤ l.length
    · rw [show H = r by omega]
    · rw [List.drop_eq_nil_of_le (show l.length ≤ H by omega), List.drop_eq_nil_of_le (show l.length ≤ r by omega)]
  clear hH
  obtain ⟨p0, p1⟩ := k5
  go_upto_if 28 with fail
  go_cut [28] from 29 to 33 (fun x wx => Hid (RcO g (pto R f (tabI r l 0)) wx ∧ Fr (fun k => k = g) W1 wx))
  case first =>
    obtain ⟨st1, st2⟩ := tab_start R hR f r hfr l
    by_cases hlt : H < l.length
    · have hlti : (H : Int) < (l.length : Int) := by omega
      have hrl := HIFF.out.1 hlt
      have hEl : E < (pto R f (z8 (r * 24 + 1))).length := by rw [pto_len _ _ _ (by rw [z8_len]; omega)]; omega
      have HQ4 : Hid (Calls Tryd.prog 44 #[.agg #[.int .i64 (f : Int), .int .i64 (r : Int)]] W5.drew fun e w6 => e = .returned (.int .i64 (E : Int)) ∧ (w6.cell? ⟨tb, 0, none⟩ = some (.int .i64 (f : Int)) ∧ w6.cell? ⟨tb, 1, none⟩ = some (.int .i64 (r : Int))) ∧ ∃ u, w6.cell? ⟨g, E, none⟩ = some u ∧ w6.frozen? ⟨g, E, none⟩ = false ∧ ∃ W7, w6.setCell ⟨g, E, none⟩ (.int .u8 1) = W7 ∧ (W7.cell? ⟨tb, 0, none⟩ = some (.int .i64 (f : Int)) ∧ W7.cell? ⟨tb, 1, none⟩ = some (.int .i64 (r : Int))) ∧ Hid (RcO g (pto R f (tabI r l 0)) W7 ∧ Fr (fun k => k = g) W1 W7)) := by
        refine (HEnd.out W5.drew).mono ?_
        rintro e w6 ⟨rfl, K⟩
        have kd : Nw W5 w6 := Nw.trans (b := W5.drew) ((Fr.refl _ _).drew) K.out
        have hr6 : RcO g (pto R f (z8 (r * 24 + 1))) w6 := Nw.heap kd K5.out.1
        have hF6 : Fr (fun k => k = g) W1 w6 := K5.out.2.trans kd.any
        have hs := hr6.set1 E 1#8
        rw [← hE, st1 hrl, hE] at hs
        have hF7 : Fr (fun k => k = g) W1 (w6.setCell ⟨g, E, none⟩ (.int .u8 1)) := hF6.setCell _ _ (.inl rfl)
        exact ⟨rfl, HT.out _ hF6, _, hr6.at E hEl, (by unfold RcO at hr6; simp [World.frozen?, hr6]), _, rfl, HT.out _ hF7, hs, hF7⟩
      clear st1 st2 HFin HL1 HT HEnd hEl hrl
      go_wp2_with fail
      go_region_held3 (fun w' => w'.cell? ⟨tb, 0, none⟩ = some (.int .i64 (f : Int)) ∧ w'.cell? ⟨tb, 1, none⟩ = some (.int .i64 (r : Int)))
        (first | assumption | exact ⟨p0, p1⟩)
        (first | (go_at_call 44; with_reducible refine HQ4.out.mono ?_; rintro e w6 ⟨rfl, k6, u6, c6, f6, W7, hW7, k7, K7⟩))
      go_wp2_with fail
      go_meet
      exact K7
    · have hlti : ¬ (H : Int) < (l.length : Int) := by omega
      have hrl : ¬ r < l.length := fun h => hlt (HIFF.out.2 h)
      have HK : Hid (RcO g (pto R f (tabI r l 0)) W5 ∧ Fr (fun k => k = g) W1 W5) := by rw [← st2 hrl]; exact K5
      go_wp2_with fail
      go_meet
      exact HK
  case rest =>
    clear K5 p0 p1
    have HC := tHid hcut
    clear hcut
    obtain ⟨wA, hwA⟩ : ∃ z, z = wc := ⟨_, rfl⟩
    subst hwA
    have hHc : (H : Int) ≤ (c : Int) := by omega
    go_upto_region 5 with fail
    go_wp2_with fail
    go_loopg [38] H (fun kx i wr => ∃ I : Nat, I ≤ H ∧ H - I ≤ kx ∧ i = .int .i64 (I : Int) ∧ Hid (RcO g (pto R f (tabI r l I)) wr ∧ Fr (fun k => k = g) W1 wr))
    case atStart => exact ⟨0, by omega, by omega, rfl, HC⟩
    case round =>
      obtain ⟨I, hI, hkx, rfl, HI⟩ := hrel
      by_cases hlt : I < H
      · have hlti : (I : Int) < (H : Int) := by omega
        have hIl : I < l.length := by omega
        obtain ⟨gl, ol, rfl, hgl, x0, x1⟩ := rg_at (HL1.out wr HI.out.2) I hIl
        obtain ⟨y1, y2, y3⟩ := hok l[I] (List.getElem_mem hIl)
        have hst := tab_step R hR f r hfr l hok I (by omega) hIl
        have hlen : (pto R f (tabI r l I)).length = 512 := by rw [pto_len _ _ _ (by rw [tabI_len r l hok I (by omega) (by omega)]; omega)]; exact hR
        obtain ⟨XI, hXI⟩ : ∃ X, l[I] = X := ⟨_, rfl⟩
        rw [hXI] at x0 x1 y1 y2 y3 hst
        obtain ⟨xa, xb⟩ := XI
        simp only at x0 x1 y1 y2 y3 hst
        obtain ⟨D, hD⟩ : ∃ D, xb - xa = D := ⟨_, rfl⟩
        rw [hD] at hst
        obtain ⟨M, hM⟩ : ∃ M, I * 24 = M := ⟨_, rfl⟩
        obtain ⟨O, hO⟩ : ∃ O, f + M = O := ⟨_, rfl⟩
        obtain ⟨O2, hO2⟩ : ∃ O2, O + 12 = O2 := ⟨_, rfl⟩
        rw [hM, hO, hO2] at hst
        obtain ⟨N, hN⟩ : ∃ N, 512 - O = N := ⟨_, rfl⟩
        obtain ⟨N2, hN2⟩ : ∃ N2, N - 12 = N2 := ⟨_, rfl⟩
        have e1 : (I : Int) * 24 = (M : Int) := by omega
        have e2 : (f : Int) + (M : Int) = (O : Int) := by omega
        have e3 : (M : Int) ≤ 512 := by omega
        have e4 : (O : Int) ≤ 512 := by omega
        have e5 : ¬ N = 12 := by omega
        have e6 : ¬ N - 12 = 0 := by omega
        have e7 : (12 : Int) ≤ (N : Int) := by omega
        have hso := slpL g O (by omega)
        rw [hN] at hso
        have hwM : IntKind.i64.wrap (M : Int) = (M : Int) := by rw [IntKind.wrap_i64]; omega
        have hwO : IntKind.i64.wrap (O : Int) = (O : Int) := by rw [IntKind.wrap_i64]; omega
        have hwD : IntKind.i64.wrap D = D := by rw [IntKind.wrap_i64]; omega
        obtain ⟨bx, hbx⟩ : ∃ bx, wr.heap.size = bx := ⟨_, rfl⟩
        obtain ⟨W2, hW2⟩ : ∃ W2, wr.alloc (.cells #[.int .i64 xa, .int .i64 xb] 51) = W2 := ⟨_, rfl⟩
        have hN2 : Nw wr W2 := by rw [← hW2]; exact (Fr.refl _ _).alloc _
        have hrow2 : W2.heap[bx]? = some (.cells #[.int .i64 xa, .int .i64 xb] 51) := by rw [← hW2, ← hbx]; exact nHeap _ _
        have hgb : g ≠ bx := by have := (Array.getElem?_eq_some_iff.1 HI.out.1).1; omega
        have HBX : Hid (∀ V, Fr (fun k => k = g) W2 V → V.cell? ⟨bx, 0, none⟩ = some (.int .i64 xa) ∧ V.cell? ⟨bx, 1, none⟩ = some (.int .i64 xb)) := fun V hV => by
          obtain ⟨⟨u0, _⟩, ⟨u2, _⟩⟩ := two_cells (hV.heapv hrow2 (fun e => hgb e.symm))
          exact ⟨u0, u2⟩
        obtain ⟨z0, z1⟩ := HBX.out W2 (Fr.refl _ _)
        obtain ⟨t0, t1⟩ := HT.out W2 (HI.out.2.trans hN2.any)
        have HP1 : Hid (∀ V, Nw W2 V → Calls Tryd.prog 33 #[.slice (some ⟨g, O, none⟩) N N, .int .i64 xa] V fun e w5 => e = .returned (.bool true) ∧ (w5.cell? ⟨bx, 0, none⟩ = some (.int .i64 xa) ∧ w5.cell? ⟨bx, 1, none⟩ = some (.int .i64 xb)) ∧ Hid (RcO g (pto (pto R f (tabI r l I)) O (pnL xa 12)) w5 ∧ Fr (fun k => k = g) W2 w5)) := fun V hV => by
          refine (xputN_any V g O N N _ hlen (Nw.heap (hN2.trans hV) HI.out.1) (by omega) (by omega) (by omega) (by omega) xa y1 (by omega)).mono ?_
          rintro e w5 ⟨rfl, K⟩
          have hF := hV.any.trans K.out.2
          exact ⟨rfl, HBX.out _ hF, K.out.1, hF⟩
        have hlen2 : (pto (pto R f (tabI r l I)) O (pnL xa 12)).length = 512 := by rw [pto_len _ _ _ (by rw [hlen, (pn12 xa y1 (by omega)).2.1]; omega)]; exact hlen
        have HP2 : Hid (∀ V, RcO g (pto (pto R f (tabI r l I)) O (pnL xa 12)) V → Fr (fun k => k = g) W2 V → Calls Tryd.prog 33 #[.slice (some ⟨g, O2, none⟩) N2 N2, .int .i64 D] V fun e w6 => e = .returned (.bool true) ∧ (w6.cell? ⟨bx, 0, none⟩ = some (.int .i64 xa) ∧ w6.cell? ⟨bx, 1, none⟩ = some (.int .i64 xb)) ∧ Hid (RcO g (pto R f (tabI r l (I + 1))) w6 ∧ Fr (fun k => k = g) W1 w6)) := fun V h1 h2 => by
          refine (xputN_any V g O2 N2 N2 _ hlen2 h1 (by omega) (by omega) (by omega) (by omega) D (by omega) (by omega)).mono ?_
          rintro e w6 ⟨rfl, K⟩
          rw [hst] at K
          have hF := h2.trans K.out.2
          exact ⟨rfl, HBX.out _ hF, K.out.1, (HI.out.2.trans hN2.any).trans hF⟩
        clear HI HT HL1 HFin HEnd hst hlen hlen2 hXI hM hO hrow2 hN2 hgb HBX HC HDR HIFF hok
        go_upto_region 8 with fail
        go_quiet (fail)
        go_upto_region 9 with fail
        have HP1' := tHid (HP1.out (W2.drewN (nq + 1)) ((Fr.refl _ _).drewN _))
        clear HP1
        have zz : (W2.drewN (nq + 1)).cell? ⟨bx, 0, none⟩ = some (.int .i64 xa) ∧ (W2.drewN (nq + 1)).cell? ⟨bx, 1, none⟩ = some (.int .i64 xb) := ⟨Nw.cell ((Fr.refl _ _).drewN _) z0, Nw.cell ((Fr.refl _ _).drewN _) z1⟩
        go_region_held3 (fun w' => w'.cell? ⟨bx, 0, none⟩ = some (.int .i64 xa) ∧ w'.cell? ⟨bx, 1, none⟩ = some (.int .i64 xb))
          (first | assumption | exact zz)
          (first
            | (go_at_call 33; with_reducible refine HP1'.out.mono ?_; rintro e w5 ⟨rfl, k5, K5⟩)
            | (go_at_call 33; with_reducible refine (HP2.out _ K5.out.1 K5.out.2).mono ?_; rintro e w6 ⟨rfl, k6, K6⟩))
        go_wp2_with fail
        go_roundg (H - (I + 1))
        case measure => omega
        case rel => exact ⟨I + 1, by omega, by omega, by first | rfl | simp, K6⟩
      · have hlti : ¬ (I : Int) < (H : Int) := by omega
        obtain rfl : I = H := by omega
        have hsl := HL1.out wr HI.out.2
        have HE : Hid (∀ a' n' c', SlR RG X (.slice a' n' c') (l.drop r) wr → P (.returned (.tuple #[.slice a' n' c', .bool true])) wr) := fun a' n' c' h => HFin.out wr a' n' c' HI.out.1 HI.out.2 h
        rw [← HDR.out] at HE
        clear HI HT HL1 HFin HEnd HC HDR HIFF
        by_cases hcI : c = I
        · have hll : l.length - I = 0 := by omega
          have hc0 : c - I = 0 := by omega
          have hnil : l.drop I = [] := List.drop_eq_nil_of_le (by omega)
          rw [hnil] at HE
          have HE2 := tHid (fun a' => HE.out a' 0 0 (.inl ⟨a', rfl, rfl⟩))
          clear HE hnil hsl
          have hIc : (I : Int) ≤ (l.length : Int) := by omega
          go_wp2_with fail
          first | exact HE2.out _ | (go_ret; exact HE2.out _)
        · obtain ⟨gq, oq, rfl⟩ := HMF.out.resolve_left (by omega)
          have hd := SlR.dropG hsl I (by omega)
          have hc0 : ¬ c - I = 0 := by omega
          have HE2 := tHid (HE.out _ _ _ hd)
          clear HE hd hsl
          have hIc : (I : Int) ≤ (l.length : Int) := by omega
          go_wp2_with fail
          first | exact HE2.out | (go_ret; exact HE2.out)
end Go.Proofs.YtffhpoilifgcdaaDoor

namespace Go.Proofs.YtffhpoilifgcdaaDoor
open Go.RowKit
set_option linter.unusedVariables false
/-! ### PutOld: rows of records, what it lays -/
abbrev Rcd := { b : List By // b.length = 512 }
def RR : RT Rcd := { enc := fun x => x.1.map bv, k := 512, T := 36, TS := 37, z := ⟨zrec, zrec_length⟩, by_ := 512 }
theorem rrOk : RR.Ok := by
  refine ⟨fun x => by simp only [RR, List.length_map]; exact x.2, by decide, fun x v hv => ?_, Tryd.underlying37, ?_⟩
  · simp only [RR, List.mem_map] at hv
    obtain ⟨y, _, rfl⟩ := hv
    rfl
  · have h : (Tryd.prog.info? 36).map (fun i => (i.zero, i.size, i.bytes)) = some (some (.agg Tryd.zeroCells36), 512, 512) := by kernel_rfl
    cases hq : Tryd.prog.info? 36 with
    | none => simp [hq] at h
    | some i =>
      simp [hq] at h
      refine ⟨i, _, hq, h.1, h.2.1, h.2.2, ?_⟩
      show Tryd.zeroCells36 = (zrec.map bv).toArray
      rw [zrec_rc]
      rfl
theorem litR (V : World) (x : Rcd) : OwR RR V.heap.size (.slice (some ⟨V.heap.size, 0, none⟩) 1 1) [x] (V.alloc (.cells (rc x.1) 36)) := OwR.built rrOk V [x] _ (by simp [flatR, RR, rc]) (by simp)
theorem pushR (V : World) (og : Option Nat) (v : Value) (l : List Rcd) (h : OgR RR og v l V) (hl : l.length ≤ 100000000) (x : Rcd) :
    ∃ og' v' W, Hid (∀ ty, (Builtin.append_ #[37, 37] ty #[v, .slice (some ⟨V.heap.size, 0, none⟩) 1 1]).run Tryd.prog (V.alloc (.cells (rc x.1) 36)) = .ok v' W) ∧
      OgR RR og' v' (l ++ [x]) W ∧ Fr (fun k => og = some k) V W ∧ Went og og' V := by
  have hN : Nw V (V.alloc (.cells (rc x.1) 36)) := (Fr.refl _ _).alloc _
  have hb := litR V x
  obtain ⟨v', og', W, k1, k2, k3, k4⟩ := ogR_app rrOk _ og v l (h.nw hN) (.slice (some ⟨V.heap.size, 0, none⟩) 1 1) [x] ((hb.slr rrOk).mono (fun _ h => h.elim)) (by simp only [RR, List.length_singleton]; omega) (by simp only [List.length_singleton]; omega)
  exact ⟨og', v', W, k1, k2, hN.any.trans k3, Went.trans (Went.refl _ _) k4 hN.size⟩
def mk512 (b : List By) : Rcd := if h : b.length = 512 then ⟨b, h⟩ else ⟨zrec, zrec_length⟩
theorem mk512_val (b : List By) (h : b.length = 512) : (mk512 b).1 = b := by unfold mk512; rw [dif_pos h]
/-- A further record of l. -/
def furR (l : List Rg) : List By := pto zrec 0 (tabI 21 l (min l.length 21))
def furs : Nat → List Rg → List Rcd
  | 0, _ => []
  | n + 1, l => if l = [] then [] else mk512 (furR l) :: furs n (l.drop 21)
def fstR (R : List By) (l : List Rg) (z : Int) : List By := pto (pto R 386 (tabI 4 l (min l.length 4))) 483 (pnL z 12)
theorem furR_len (l : List Rg) (h : ∀ x ∈ l, OkG x) : (furR l).length = 512 := by
  unfold furR
  rw [pto_len _ _ _ (by rw [tabI_len 21 l h _ (by omega) (by omega), zrec_length]; decide)]
  exact zrec_length
theorem fstR_len (R : List By) (hR : R.length = 512) (l : List Rg) (h : ∀ x ∈ l, OkG x) (z : Int) (h1 : 0 ≤ z) (h2 : z ≤ 9223372036854775807) : (fstR R l z).length = 512 := by
  have e1 : (pto R 386 (tabI 4 l (min l.length 4))).length = 512 := by rw [pto_len _ _ _ (by rw [tabI_len 4 l h _ (by omega) (by omega)]; omega)]; exact hR
  unfold fstR
  rw [pto_len _ _ _ (by rw [e1, (pn12 z h1 h2).2.1]; decide)]
  exact e1
theorem furs_snoc (n : Nat) (l : List Rg) (j : Nat) (hj : j < n) (hne : l.drop (j * 21) ≠ []) : (furs (j + 1) l) = furs j l ++ [mk512 (furR (l.drop (j * 21)))] := by
  induction j generalizing l n with
  | zero =>
    rw [Nat.zero_mul, List.drop_zero] at hne
    simp [furs, hne]
  | succ j ih =>
    have hl : l ≠ [] := fun e => by rw [e] at hne; simp at hne
    have hd : (l.drop 21).drop (j * 21) ≠ [] := by rw [List.drop_drop]; rw [show 21 + j * 21 = (j + 1) * 21 by omega]; exact hne
    have := ih (j + 1) (l.drop 21) (by omega) hd
    rw [furs, if_neg hl, this, furs, if_neg hl, List.cons_append, List.drop_drop, show 21 + j * 21 = (j + 1) * 21 by omega]
theorem vlE_ok {s e : Int} {l : List Rg} (h : vlE s e l = true) (he : 0 ≤ e) (hs : s ≤ 9223372036854775807) : ∀ x ∈ l, OkG x := by
  induction l generalizing e with
  | nil => intro x hx; cases hx
  | cons y l ih =>
    obtain ⟨h1, h2, h3, h4⟩ := vlE_cons.1 h
    intro x hx
    rcases List.mem_cons.1 hx with rfl | hx
    · exact ⟨by omega, h2, by omega⟩
    · exact ih h4 (by omega) x hx
theorem vld_ok {l : List Rg} {z : Int} (h : vld l z = true) (hz : z ≤ 9223372036854775807) : 0 ≤ z ∧ l.length ≤ 65536 ∧ ∀ x ∈ l, OkG x := by
  unfold vld at h
  rw [Bool.and_eq_true, Bool.and_eq_true, decide_eq_true_iff, decide_eq_true_iff] at h
  exact ⟨h.1, h.2.1, vlE_ok h.2.2 (Int.le_refl _) hz⟩
end Go.Proofs.YtffhpoilifgcdaaDoor
