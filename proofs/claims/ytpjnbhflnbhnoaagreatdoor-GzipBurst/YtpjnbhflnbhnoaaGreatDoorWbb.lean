import Derived.Test.YtpjnbhflnbhnoaaGreatDoorWax
import Derived.Laws.CopyOwn
import Derived.Lib.AppendZeros
namespace Go.Proofs.YtpjnbhflnbhnoaaGreatDoor
open Go.RowKit
set_option linter.unusedVariables false
/-- The product of 1 and a small number, in two words. -/
theorem mul64_any (y : Nat) (hy : y ≤ 65535) (w : World) : Calls Tryz.prog 172 #[.int .u64 1, .int .u64 y] w fun e w' => e = .returned (.tuple #[.int .u64 0, .int .u64 y]) ∧ w' = w := by
  have h1 : bits .and .u64 (y : Int) 4294967295 = (y : Int) := by
    have := u64_and_nat y 4294967295 (by omega) (by decide)
    rw [show ((4294967295 : Nat) : Int) = 4294967295 from rfl] at this
    rw [this]
    congr 1
    have e := Nat.and_two_pow_sub_one_eq_mod y 32
    rw [show 2 ^ 32 - 1 = 4294967295 by decide] at e
    rw [e]; omega
  have h2 : bits .and .u64 1 4294967295 = 1 := by decide
  have h3 : bits .and .u64 0 4294967295 = 0 := by decide
  have h4 : (y : Int) / 4294967296 = 0 := by omega
  obtain ⟨P, hP⟩ : ∃ P : Ending → World → Prop, P = fun e w' => e = .returned (.tuple #[.int .u64 0, .int .u64 y]) ∧ w' = w := ⟨_, rfl⟩
  rw [← hP]
  have HF : Hid (P (.returned (.tuple #[.int .u64 0, .int .u64 y])) w) := by
    show P _ _
    rw [hP]; exact ⟨rfl, rfl⟩
  clear hP
  go_enter Tryz.func172, Tryz.ntmps172
  go_wp2
  exact HF.out
theorem mul_any (y : Nat) (hy : y ≤ 65535) (w : World) : Calls Tryz.prog 147 #[.int .u64 1, .int .u64 y] w fun e w' => e = .returned (.tuple #[.int .u64 0, .int .u64 y]) ∧ w' = w := by
  obtain ⟨P, hP⟩ : ∃ P : Ending → World → Prop, P = fun e w' => e = .returned (.tuple #[.int .u64 0, .int .u64 y]) ∧ w' = w := ⟨_, rfl⟩
  rw [← hP]
  have HF : Hid (P (.returned (.tuple #[.int .u64 0, .int .u64 y])) w) := by
    show P _ _
    rw [hP]; exact ⟨rfl, rfl⟩
  have HC : Hid (Calls Tryz.prog 172 #[.int .u64 1, .int .u64 y] w fun e w' => e = .returned (.tuple #[.int .u64 0, .int .u64 y]) ∧ w' = w) := mul64_any y hy w
  clear hP
  go_enter Tryz.func147, Tryz.ntmps147
  go_wp2_with (first | (go_at_call 172; (with_reducible refine HC.out.mono ?_); rintro e w1 ⟨rfl, rfl⟩))
  exact HF.out
theorem infoI : (Tryz.prog.info? 3).map (·.size) = some 1 := by kernel_rfl
section
variable {ops : Array Oper} {o : Oper} {a : Act} {w W : World} {K : Act → World → Prop} {Q : Exit → Act → World → Prop} {E : Prop} {r : Value}
theorem step_copy_run (d s : Operand) (hgd : o.guard = none) (ho : o.op = .call { callee := .builtin .copy, args := #[d, s], argTypes := #[124, 124] }) (vd vs : Value) (hd : a.eval d = vd) (hs : a.eval s = vs)
    (hrun : ∀ ty, (Builtin.copy_ #[124, 124] ty #[vd, vs]).run Tryz.prog w = .ok r W) (h : K (a.put o.dst r) W) : if Region.wanted o (yielded ops a.tmps) = true then Oper.wp Tryz.prog o a w K Q else E := by
  have hw : Region.wanted o (yielded ops a.tmps) = true := by simp [Region.wanted, hgd]
  rw [if_pos hw]
  unfold Oper.wp
  simp [execOp, ho, resolve, invoke, builtin, hd, hs, hrun, Result.andThen]
  exact h
theorem wpL_copy_run {rest : List Oper} (d s : Operand) (hgd : o.guard = none) (ho : o.op = .call { callee := .builtin .copy, args := #[d, s], argTypes := #[124, 124] }) (vd vs : Value) (hd : a.eval d = vd) (hs : a.eval s = vs)
    (hrun : ∀ ty, (Builtin.copy_ #[124, 124] ty #[vd, vs]).run Tryz.prog w = .ok r W) (h : wpList Tryz.prog ops Q rest (a.put o.dst r) W) : wpList Tryz.prog ops Q (o :: rest) a w := by
  refine wpList_plain hgd fun K hK => ?_
  unfold Oper.wp
  simp [execOp, ho, resolve, invoke, builtin, hd, hs, hrun, Result.andThen]
  exact hK _ _ h
end
/-- How the copies stand: the first m are there. -/
structure RpI (w : World) (g : Nat) (z : Int) (n m : Nat) (W : World) : Prop where
  row : W.heap[g]? = some (.cells (List.replicate m (Value.int .i64 z) ++ List.replicate (n - m) (Value.int .i64 0)).toArray 3)
  gw : w.heap.size ≤ g
  nw : Nw w W
theorem RpI.drew {w : World} {g n m : Nat} {z : Int} {W : World} (h : RpI w g z n m W) : RpI w g z n m W.drew := ⟨h.row, h.gw, h.nw.drew⟩
theorem RpI.copy {w : World} {g n m : Nat} {z : Int} {W : World} (h : RpI w g z n m W) (a : Addr) (sLen sCap k : Nat) (hk : k = Nat.min sLen (n - m)) (hm : m ≤ n) (hsrc : ∀ j, j < k → W.cell? (a.add j) = some (.int .i64 z)) :
    ∃ W', Hid (∀ ty, (Builtin.copy_ #[124, 124] ty #[.slice (some ⟨g, m, none⟩) (n - m) (n - m), .slice (some a) sLen sCap]).run Tryz.prog W = .ok (.int .i64 k) W') ∧ RpI w g z n (m + k) W' := by
  have hkl : k ≤ n - m := by rw [hk]; exact Nat.min_le_right _ _
  have hrun := fun ty => run_copy_row (P := Tryz.prog) W 124 124 ty 3 g m (n - m) (n - m) a sLen sCap _ 3 (List.replicate k (Value.int .i64 z)) Tryz.underlying124 infoI h.row (by rw [List.length_replicate, hk]) (fun j v hv => by
    obtain ⟨h1, h2⟩ := List.getElem?_eq_some_iff.1 hv
    rw [List.length_replicate] at h1
    rw [List.getElem_replicate] at h2
    rw [← h2]; exact hsrc j h1) (by simp; omega) (fun v hv => by
    obtain ⟨_, rfl⟩ := List.mem_replicate.1 hv
    rfl)
  have e : (List.take m (List.replicate m (Value.int .i64 z) ++ List.replicate (n - m) (Value.int .i64 0)).toArray.toList ++ List.replicate k (Value.int .i64 z) ++ List.drop (m + (List.replicate k (Value.int .i64 z)).length) (List.replicate m (Value.int .i64 z) ++ List.replicate (n - m) (Value.int .i64 0)).toArray.toList) = List.replicate (m + k) (Value.int .i64 z) ++ List.replicate (n - (m + k)) (Value.int .i64 0) := by
    have e1 : List.take m (List.replicate m (Value.int .i64 z) ++ List.replicate (n - m) (Value.int .i64 0)) = List.replicate m (Value.int .i64 z) := by
      rw [List.take_append_of_le_length (by simp), List.take_of_length_le (by simp)]
    have e2 : List.drop (m + k) (List.replicate m (Value.int .i64 z) ++ List.replicate (n - m) (Value.int .i64 0)) = List.replicate (n - (m + k)) (Value.int .i64 0) := by
      rw [List.drop_append, List.drop_eq_nil_of_le (by simp), List.nil_append, List.length_replicate, List.drop_replicate]
      congr 1
      omega
    simp only [List.length_replicate]
    rw [e1, e2, List.replicate_append_replicate]
  rw [e] at hrun
  refine ⟨W.setRow g (List.replicate (m + k) (Value.int .i64 z) ++ List.replicate (n - (m + k)) (Value.int .i64 0)).toArray, fun ty => by rw [hrun ty]; simp [goInt], setRow_heap W g _ _ 3 _ h.row, h.gw, ?_⟩
  exact h.nw.setRow _ _ (.inr h.gw)
set_option maxHeartbeats 16000000 in
set_option maxRecDepth 100000 in
theorem repeat_any (w : World) (v : Value) (z : Int) (h : SlR RI (fun _ => False) v [z] w) (n : Nat) (hn0 : 1 ≤ n) (hn : n ≤ 65535) (zn : Int) (hzn : zn = n) :
    Calls Tryz.prog 111 #[v, .int .i64 zn] w fun e w' => ∃ g, e = .returned (.slice (some ⟨g, 0, none⟩) n n) ∧ OwR RI g (.slice (some ⟨g, 0, none⟩) n n) (List.replicate n z) w' ∧ w.heap.size ≤ g ∧ Nw w w' := by
  subst hzn
  obtain ⟨P, hP⟩ : ∃ P : Ending → World → Prop, P = fun e w' => ∃ g, e = .returned (.slice (some ⟨g, 0, none⟩) n n) ∧ OwR RI g (.slice (some ⟨g, 0, none⟩) n n) (List.replicate n z) w' ∧ w.heap.size ≤ g ∧ Nw w w' := ⟨_, rfl⟩
  rw [← hP]
  have HM : Hid (∀ V, Calls Tryz.prog 147 #[.int .u64 1, .int .u64 n] V fun e w' => e = .returned (.tuple #[.int .u64 0, .int .u64 n]) ∧ w' = V) := fun V => mul_any n hn V
  have HF : Hid (∀ g W, RpI w g z n n W → P (.returned (.slice (some ⟨g, 0, none⟩) n n)) W) := fun g W hI => by
    rw [hP]
    refine ⟨g, rfl, ⟨List.replicate n z, by simp, by simp, by simp, by simp; omega, ?_⟩, hI.gw, hI.nw⟩
    unfold SwR
    rw [hI.row]
    have e : ∀ k : Nat, flatR RI (List.replicate k z) = List.replicate k (Value.int .i64 z) := by
      intro k
      induction k with
      | zero => rfl
      | succ k ih => rw [List.replicate_succ, List.replicate_succ, flatR, ih]; rfl
    rw [e]
    simp [RI]
  obtain ⟨g0, o0, hv, hc0⟩ : ∃ g0 o0, (∃ c, v = .slice (some ⟨g0, o0, none⟩) 1 c) ∧ w.cell? ⟨g0, o0, none⟩ = some (.int .i64 z) := by
    obtain ⟨a, c, rfl, _, _, _⟩ := h.form
    obtain ⟨g, o, e, _, hcell⟩ := ri_at h 0 z rfl
    exact ⟨g, o, ⟨c, by rw [e]; rfl⟩, hcell⟩
  obtain ⟨c, rfl⟩ := hv
  obtain ⟨W1, hW1⟩ : ∃ W1, W1 = w.alloc (.cells (flatR RI (List.replicate n 0)).toArray 3) := ⟨_, rfl⟩
  have hmk := make_ints n (by omega) w
  rw [← hW1] at hmk
  have e0 : ∀ k : Nat, flatR RI (List.replicate k 0) = List.replicate k (Value.int .i64 0) := by
    intro k
    induction k with
    | zero => rfl
    | succ k ih => rw [List.replicate_succ, List.replicate_succ, flatR, ih]; rfl
  have hI0 : RpI w w.heap.size z n 0 W1 := ⟨by rw [hW1, new_heap, e0]; simp, Nat.le_refl _, by rw [hW1]; exact (Fr.refl _ _).alloc _⟩
  have HI0 : Hid (RpI w w.heap.size z n 0 W1) := hI0
  have HMK : Hid ((Instr.makeSlice 124 (.int .i64 n) (.int .i64 n)).run Tryz.prog w = .ok (.slice (some ⟨w.heap.size, 0, none⟩) n n) W1) := hmk
  obtain ⟨W2, HC1, hI1⟩ := hI0.copy ⟨g0, o0, none⟩ 1 c 1 (by show 1 = min 1 (n - 0); omega) (by omega) (fun j hj => by
    obtain rfl : j = 0 := by omega
    rw [add_addr, Nat.add_zero]
    exact hI0.nw.cell hc0)
  rw [Nat.sub_zero] at HC1
  rw [Nat.zero_add] at hI1
  have HI1 : Hid (RpI w w.heap.size z n 1 W2) := hI1
  have HST : Hid (∀ m W, RpI w w.heap.size z n m W → 1 ≤ m → m < n → ∃ W' k, k = min m (n - m) ∧ Hid (∀ ty, (Builtin.copy_ #[124, 124] ty #[.slice (some ⟨w.heap.size, m, none⟩) (n - m) (n - m), .slice (some ⟨w.heap.size, 0, none⟩) m n]).run Tryz.prog W.drew = .ok (.int .i64 (k : Nat)) W') ∧ Hid (RpI w w.heap.size z n (m + k) W')) := fun m W hI h1 h2 => by
    obtain ⟨W', q1, q2⟩ := hI.drew.copy ⟨w.heap.size, 0, none⟩ m n (min m (n - m)) rfl (by omega) (fun j hj => by
      rw [add_addr, Nat.zero_add]
      refine (row_cell hI.drew.row j _ ?_).1
      rw [List.getElem?_toArray, List.getElem?_append_left (by simp; omega), List.getElem?_replicate, if_pos (by omega)])
    exact ⟨W', _, rfl, q1, q2⟩
  clear hP h hI0 hI1 hW1 hmk e0
  obtain ⟨g, hg⟩ : ∃ g, g = w.heap.size := ⟨_, rfl⟩
  have HG : Hid (g = w.heap.size) := hg
  rw [← hg] at HI1 HC1 HMK HST
  clear hg HI0
  have hz0 : ¬ (n : Int) < 0 := by omega
  have hw1 : IntKind.u64.wrap (n : Int) = (n : Int) := by rw [IntKind.wrap_u64]; omega
  have hw2 : IntKind.i64.wrap (n : Int) = (n : Int) := by rw [IntKind.wrap_i64]; omega
  have HZ : Hid (decide ((9223372036854775807 : Int) < (n : Int)) = false) := by
    show _ = _
    exact decide_eq_false (by omega)
  go_enter Tryz.func111, Tryz.ntmps111
  go_upto_region 4 with (first
    | (go_at_call 147; (with_reducible refine (HM.out _).mono ?_); rintro e w1 ⟨rfl, hw1⟩; replace hw1 := hw1.symm; subst hw1))
  go_cut [26] (fun x wx => x = .bool false ∧ wx = w)
  case first =>
    have hz2 := HZ.out
    clear HM HF HST HC1 HMK HI1
    go_wp2_with fail
    go_meet
    exact ⟨rfl, rfl⟩
  case rest =>
  obtain ⟨rfl, hwc⟩ := hcut
  subst hwc
  have hmks := HMK.out
  clear HZ
  go_wp2_with (first
    | (refine wpL_copy_run (.tmp 31) (.tmp 32) rfl rfl (.slice (some ⟨g, 0, none⟩) n n) (.slice (some ⟨g0, o0, none⟩) 1 c) (by simp [Act.eval]) (by simp [Act.eval]) HC1.out ?_))
  go_loopg [8] n (fun kx i wr => ∃ m : Nat, 1 ≤ m ∧ m ≤ n ∧ n - m ≤ kx ∧ i = .int .i64 m ∧ Hid (RpI wc g z n m wr))
  case atStart => exact ⟨1, by omega, by omega, by omega, rfl, HI1⟩
  case round =>
    obtain ⟨m, hm1, hm2, hkx, rfl, HI⟩ := hrel
    clear HI1 HC1 HMK hmks HM
    by_cases hlt : m < n
    · obtain ⟨W', k, hk, HC, HN⟩ := HST.out m wr HI.out hm1 hlt
      have hz : (m : Int) < (n : Int) := by omega
      have hmn : (m : Int) ≤ (n : Int) := by omega
      have hnm : ¬ n = m := by omega
      have hmw : IntKind.i64.wrap (m : Int) = (m : Int) := by rw [IntKind.wrap_i64]; omega
      have hsb : (n : Int) - (m : Int) = ((n - m : Nat) : Int) := by omega
      have hmk : IntKind.i64.wrap ((m : Int) + (k : Int)) = ((m + k : Nat) : Int) := by rw [IntKind.wrap_i64]; omega
      have hm0 : (0 : Int) ≤ (m : Int) := by omega
      have hk1 : 1 ≤ k := by omega
      have hk2 : k ≤ n - m := by omega
      clear HST HF HI hk
      go_wp2_with fail
      go_region_law (first
        | (refine step_copy_run (.tmp 41) (.tmp 44) rfl rfl (.slice (some ⟨g, m, none⟩) (n - m) (n - m)) (.slice (some ⟨g, 0, none⟩) m n) (by first | rfl | simp [Act.eval, Act.put]) (by first | rfl | simp [Act.eval, Act.put]) HC.out ?_))
      all_goals go_wp2_with fail
      all_goals go_roundg (n - (m + k))
      all_goals (first | omega | exact ⟨m + k, by omega, by omega, by omega, by first | rfl | (congr 1), HN⟩)
    · obtain rfl : m = n := by omega
      have hz : ¬ (m : Int) < (m : Int) := by omega
      have HF2 : Hid (P (.returned (.slice (some ⟨g, 0, none⟩) m m)) wr) := HF.out g wr HI.out
      clear HF HST HI
      go_wp2_with fail
      exact HF2.out
end Go.Proofs.YtpjnbhflnbhnoaaGreatDoor

namespace Go.Proofs.YtpjnbhflnbhnoaaGreatDoor
open Go.RowKit
set_option linter.unusedVariables false
set_option linter.unusedSimpArgs false
set_option maxHeartbeats 8000000 in
set_option maxRecDepth 100000 in
theorem growI_any (w : World) (n : Nat) (h0 : 1 ≤ n) (hn : n ≤ 1000000) : Calls Tryz.prog 148 #[.slice none 0 0, .int .i64 n] w fun e w' => ∃ g c, e = .returned (.slice (some ⟨g, 0, none⟩) 0 c) ∧ OwR RI g (.slice (some ⟨g, 0, none⟩) 0 c) [] w' ∧ Hid (w.heap.size ≤ g ∧ Nw w w') := by
  obtain ⟨P, hP⟩ : ∃ P : Ending → World → Prop, P = fun e w' => ∃ g c, e = .returned (.slice (some ⟨g, 0, none⟩) 0 c) ∧ OwR RI g (.slice (some ⟨g, 0, none⟩) 0 c) [] w' ∧ Hid (w.heap.size ≤ g ∧ Nw w w') := ⟨_, rfl⟩
  rw [← hP]
  obtain ⟨i, zv, hi, hz, hs, hby, hzc⟩ := riOk.info
  have hby8 : i.bytes = 8 := hby
  have hs1 : i.size = 1 := hs
  have hrun := fun ty => Lib.run_append_nil_zeros w 124 3 ty 3 i zv .i64 .i64 Tryz.underlying124 Tryz.underlying3 hi hz n (by omega) (by omega) (by omega) (by rw [hby8]; omega)
  have hge := grownCap_ge w n 0 3
  have hle := grownCap_le_maxLen w n 0 3 (by unfold maxLen; omega)
  unfold maxLen at hle
  generalize grownCap w n 0 3 = G at *
  obtain ⟨W, hW⟩ : ∃ W, W = w.drew.alloc (.cells (Builtin.zeroCells zv.cells n ++ Builtin.zeroCells zv.cells (G - n)) 3) := ⟨_, rfl⟩
  rw [← hW] at hrun
  have HF : Hid (P (.returned (.slice (some ⟨w.heap.size, 0, none⟩) 0 G)) W) := by
    show P _ _
    rw [hP]
    refine ⟨_, _, rfl, ⟨List.replicate n 0 ++ List.replicate (G - n) 0, by simp; omega, by simp, by simp, by simp; omega, ?_⟩, Nat.le_refl _, by rw [hW]; exact (Fr.refl _ _).drew.alloc _⟩
    rw [hW, zeroR riOk zv hzc, zeroR riOk zv hzc]
    unfold SwR
    rw [flatR_append]
    show (w.drew.heap.push _)[w.heap.size]? = _
    have e : w.drew.heap = w.heap := rfl
    rw [e]
    simp [RI]
  have HAP : Hid (∀ ty, (Builtin.append_ #[124, 3] ty #[.slice none 0 0, .int .i64 n]).run Tryz.prog w = .ok (.slice (some ⟨w.heap.size, 0, none⟩) n G) W) := hrun
  have hz0 : ¬ (n : Int) < 0 := by omega
  have hz1 : (0 : Int) < (n : Int) := by omega
  clear hP hrun hW hi hz hs hby hby8 hzc hs1
  go_enter Tryz.func148, Tryz.ntmps148
  go_wp2_with (first
    | (at_builtin; refine Lib.wpList_append_run _ rfl _ _ 124 3 rfl (.slice none 0 0) (.int .i64 n) (by simp [Act.eval]) (by simp [Act.eval]) _ _ (HAP.out _) ?_))
  exact HF.out

set_option maxHeartbeats 16000000 in
set_option maxRecDepth 100000 in
theorem concatI_any (w : World) (g : Nat) (v0 v1 v2 v3 : Value) (l0 l1 l2 l3 : List Int) (hg : g < w.heap.size) (c0 : w.cell? ⟨g, 0, none⟩ = some (v0)) (c1 : w.cell? ⟨g, 1, none⟩ = some (v1)) (c2 : w.cell? ⟨g, 2, none⟩ = some (v2)) (c3 : w.cell? ⟨g, 3, none⟩ = some (v3)) (h0 : SlR RI (fun k => w.heap.size ≤ k) v0 l0 w) (h1 : SlR RI (fun k => w.heap.size ≤ k) v1 l1 w) (h2 : SlR RI (fun k => w.heap.size ≤ k) v2 l2 w) (h3 : SlR RI (fun k => w.heap.size ≤ k) v3 l3 w) (hp : 1 ≤ l0.length) (hsz : l0.length + l1.length + l2.length + l3.length ≤ 100000) :
    Calls Tryz.prog 112 #[.slice (some ⟨g, 0, none⟩) 4 4] w fun e w' => ∃ g' c', e = .returned (.slice (some ⟨g', 0, none⟩) (((l0 ++ l1) ++ l2) ++ l3).length c') ∧ OwR RI g' (.slice (some ⟨g', 0, none⟩) (((l0 ++ l1) ++ l2) ++ l3).length c') (((l0 ++ l1) ++ l2) ++ l3) w' ∧ w.heap.size ≤ g' ∧ Nw w w' := by
  obtain ⟨P, hP⟩ : ∃ P : Ending → World → Prop, P = fun e w' => ∃ g' c', e = .returned (.slice (some ⟨g', 0, none⟩) (((l0 ++ l1) ++ l2) ++ l3).length c') ∧ OwR RI g' (.slice (some ⟨g', 0, none⟩) (((l0 ++ l1) ++ l2) ++ l3).length c') (((l0 ++ l1) ++ l2) ++ l3) w' ∧ w.heap.size ≤ g' ∧ Nw w w' := ⟨_, rfl⟩
  rw [← hP]
  obtain ⟨a0, k0, rfl, _, _, _⟩ := h0.form
  obtain ⟨a1, k1, rfl, _, _, _⟩ := h1.form
  obtain ⟨a2, k2, rfl, _, _, _⟩ := h2.form
  obtain ⟨a3, k3, rfl, _, _, _⟩ := h3.form
  have HG : Hid (Calls Tryz.prog 148 #[.slice none 0 0, .int .i64 (l0.length + l1.length + l2.length + l3.length : Nat)] w fun e W0 => ∃ g0 d0, e = .returned (.slice (some ⟨g0, 0, none⟩) 0 d0) ∧ W0.cell? ⟨g, 0, none⟩ = some (.slice a0 l0.length k0) ∧ ∃ g1 d1 W1, Hid (∀ ty, (Builtin.append_ #[124, 124] ty #[.slice (some ⟨g0, 0, none⟩) 0 d0, .slice a0 l0.length k0]).run Tryz.prog W0 = .ok (.slice (some ⟨g1, 0, none⟩) (l0).length d1) W1) ∧ W1.cell? ⟨g, 1, none⟩ = some (.slice a1 l1.length k1) ∧ ∃ g2 d2 W2, Hid (∀ ty, (Builtin.append_ #[124, 124] ty #[.slice (some ⟨g1, 0, none⟩) (l0).length d1, .slice a1 l1.length k1]).run Tryz.prog W1 = .ok (.slice (some ⟨g2, 0, none⟩) (l0 ++ l1).length d2) W2) ∧ W2.cell? ⟨g, 2, none⟩ = some (.slice a2 l2.length k2) ∧ ∃ g3 d3 W3, Hid (∀ ty, (Builtin.append_ #[124, 124] ty #[.slice (some ⟨g2, 0, none⟩) (l0 ++ l1).length d2, .slice a2 l2.length k2]).run Tryz.prog W2 = .ok (.slice (some ⟨g3, 0, none⟩) ((l0 ++ l1) ++ l2).length d3) W3) ∧ W3.cell? ⟨g, 3, none⟩ = some (.slice a3 l3.length k3) ∧ ∃ g4 d4 W4, Hid (∀ ty, (Builtin.append_ #[124, 124] ty #[.slice (some ⟨g3, 0, none⟩) ((l0 ++ l1) ++ l2).length d3, .slice a3 l3.length k3]).run Tryz.prog W3 = .ok (.slice (some ⟨g4, 0, none⟩) (((l0 ++ l1) ++ l2) ++ l3).length d4) W4) ∧ Hid (P (.returned (.slice (some ⟨g4, 0, none⟩) (((l0 ++ l1) ++ l2) ++ l3).length d4)) W4)) := by
    refine (growI_any w _ (by omega) (by omega)).mono ?_
    rintro e W0 ⟨g0, d0, rfl, hO0, hN0⟩
    obtain ⟨hg0, hN0⟩ := hN0.out
    refine ⟨g0, d0, rfl, hN0.cell c0, ?_⟩
    obtain ⟨v0', g1, W1, ap0, hO1, hF0, hw0⟩ := owR_app riOk W0 g0 _ ([]) hO0 (.slice a0 l0.length k0) l0 ((h0.nw hN0).mono (fun _ h => h.elim)) (by first | (simp only [List.length_append, List.length_nil, show RI.by_ = 8 from rfl]; omega) | (simp only [show RI.by_ = 8 from rfl]; omega)) (by first | (simp only [List.length_append, List.length_nil]; omega) | omega)
    rw [List.nil_append] at hO1
    obtain ⟨d1, rfl, _, _⟩ := hO1.form
    have hN1 : Nw w W1 := Fr.then hN0 hF0 (fun i hi => .inr (by omega))
    have hg1 : w.heap.size ≤ g1 := by have := hN0.size; rcases hw0 with e | e <;> omega
    refine ⟨g1, d1, W1, ap0, hN1.cell c1, ?_⟩
    obtain ⟨v1', g2, W2, ap1, hO2, hF1, hw1⟩ := owR_app riOk W1 g1 _ (l0) hO1 (.slice a1 l1.length k1) l1 ((h1.nw hN1).mono (fun _ h => h.elim)) (by first | (simp only [List.length_append, List.length_nil, show RI.by_ = 8 from rfl]; omega) | (simp only [show RI.by_ = 8 from rfl]; omega)) (by first | (simp only [List.length_append, List.length_nil]; omega) | omega)
    obtain ⟨d2, rfl, _, _⟩ := hO2.form
    have hN2 : Nw w W2 := Fr.then hN1 hF1 (fun i hi => .inr (by omega))
    have hg2 : w.heap.size ≤ g2 := by have := hN1.size; rcases hw1 with e | e <;> omega
    refine ⟨g2, d2, W2, ap1, hN2.cell c2, ?_⟩
    obtain ⟨v2', g3, W3, ap2, hO3, hF2, hw2⟩ := owR_app riOk W2 g2 _ (l0 ++ l1) hO2 (.slice a2 l2.length k2) l2 ((h2.nw hN2).mono (fun _ h => h.elim)) (by first | (simp only [List.length_append, List.length_nil, show RI.by_ = 8 from rfl]; omega) | (simp only [show RI.by_ = 8 from rfl]; omega)) (by first | (simp only [List.length_append, List.length_nil]; omega) | omega)
    obtain ⟨d3, rfl, _, _⟩ := hO3.form
    have hN3 : Nw w W3 := Fr.then hN2 hF2 (fun i hi => .inr (by omega))
    have hg3 : w.heap.size ≤ g3 := by have := hN2.size; rcases hw2 with e | e <;> omega
    refine ⟨g3, d3, W3, ap2, hN3.cell c3, ?_⟩
    obtain ⟨v3', g4, W4, ap3, hO4, hF3, hw3⟩ := owR_app riOk W3 g3 _ ((l0 ++ l1) ++ l2) hO3 (.slice a3 l3.length k3) l3 ((h3.nw hN3).mono (fun _ h => h.elim)) (by first | (simp only [List.length_append, List.length_nil, show RI.by_ = 8 from rfl]; omega) | (simp only [show RI.by_ = 8 from rfl]; omega)) (by first | (simp only [List.length_append, List.length_nil]; omega) | omega)
    obtain ⟨d4, rfl, _, _⟩ := hO4.form
    have hN4 : Nw w W4 := Fr.then hN3 hF3 (fun i hi => .inr (by omega))
    have hg4 : w.heap.size ≤ g4 := by have := hN3.size; rcases hw3 with e | e <;> omega
    refine ⟨g4, d4, W4, ap3, ?_⟩
    show P _ _
    rw [hP]
    exact ⟨g4, d4, rfl, hO4, hg4, hN4⟩
  clear hP h0 h1 h2 h3
  generalize hT4 : (((l0 ++ l1) ++ l2) ++ l3).length = T4 at *
  clear hT4
  generalize hT3 : ((l0 ++ l1) ++ l2).length = T3 at *
  clear hT3
  generalize hT2 : (l0 ++ l1).length = T2 at *
  clear hT2
  generalize hT1 : (l0).length = T1 at *
  generalize hL1 : l1.length = L1 at *
  clear hL1
  generalize hL2 : l2.length = L2 at *
  clear hL2
  generalize hL3 : l3.length = L3 at *
  clear hL3
  clear hT1
  obtain ⟨S2, hS2⟩ : ∃ S2, T1 + L1 = S2 := ⟨_, rfl⟩
  obtain ⟨S3, hS3⟩ : ∃ S3, S2 + L2 = S3 := ⟨_, rfl⟩
  obtain ⟨S4, hS4⟩ : ∃ S4, S3 + L3 = S4 := ⟨_, rfl⟩
  rw [hS2, hS3, hS4] at HG
  have y2 : (T1 : Int) + (L1 : Int) = (S2 : Int) := by omega
  have y3 : (S2 : Int) + (L2 : Int) = (S3 : Int) := by omega
  have y4 : (S3 : Int) + (L3 : Int) = (S4 : Int) := by omega
  have b2 : S4 ≤ 100000 := by omega
  have b3 : S3 ≤ 100000 := by omega
  have b4 : S2 ≤ 100000 := by omega
  have b5 : T1 ≤ 100000 := by omega
  clear hS2 hS3 hS4 hp hsz
  go_enter Tryz.func112, Tryz.ntmps112
  go_wp2
  go_loopg [3, 11] 5 (fun kx s i wr => wr = w ∧ ∃ I S : Nat, 5 - I ≤ kx ∧ s = .int .i64 S ∧ i = .int .i64 I ∧ ((I = 0 ∧ S = 0) ∨ (I = 1 ∧ S = T1) ∨ (I = 2 ∧ S = S2) ∨ (I = 3 ∧ S = S3) ∨ (I = 4 ∧ S = S4)))
  case atStart => exact ⟨rfl, 0, 0, by omega, rfl, rfl, .inl ⟨rfl, rfl⟩⟩
  case round =>
    obtain ⟨rfl, I, S, hkx, rfl, rfl, hI⟩ := hrel
    rcases hI with ⟨rfl, rfl⟩ | ⟨rfl, rfl⟩ | ⟨rfl, rfl⟩ | ⟨rfl, rfl⟩ | ⟨rfl, rfl⟩
    · clear HG
      have hz : ¬ (T1 : Int) < 0 := by omega
      go_wp2
      go_roundg 4
      all_goals (first | omega | exact ⟨rfl, 1, T1, by omega, rfl, rfl, .inr (.inl ⟨rfl, rfl⟩)⟩)
    · clear HG
      have hz : ¬ (S2 : Int) < 0 := by omega
      go_wp2
      go_roundg 3
      all_goals (first | omega | exact ⟨rfl, 2, S2, by omega, rfl, rfl, .inr (.inr (.inl ⟨rfl, rfl⟩))⟩)
    · clear HG
      have hz : ¬ (S3 : Int) < 0 := by omega
      go_wp2
      go_roundg 2
      all_goals (first | omega | exact ⟨rfl, 3, S3, by omega, rfl, rfl, .inr (.inr (.inr (.inl ⟨rfl, rfl⟩)))⟩)
    · clear HG
      have hz : ¬ (S4 : Int) < 0 := by omega
      go_wp2
      go_roundg 1
      all_goals (first | omega | exact ⟨rfl, 4, S4, by omega, rfl, rfl, .inr (.inr (.inr (.inr ⟨rfl, rfl⟩)))⟩)
    · clear y2 y3 y4
      go_wp2_with (first
        | (go_at_call 148; with_reducible refine (HG.out).mono ?_; rintro e W0 ⟨g0, d0, rfl, x0, g1, d1, W1, HAP1, x1, g2, d2, W2, HAP2, x2, g3, d3, W3, HAP3, x3, g4, d4, W4, HAP4, HF⟩))
      go_loopg [6, 27] 5 (fun kx v i wr => ∃ I : Nat, 5 - I ≤ kx ∧ i = .int .i64 I ∧ ((I = 0 ∧ v = .slice (some ⟨g0, 0, none⟩) 0 d0 ∧ wr = W0) ∨ (I = 1 ∧ v = .slice (some ⟨g1, 0, none⟩) T1 d1 ∧ wr = W1) ∨ (I = 2 ∧ v = .slice (some ⟨g2, 0, none⟩) T2 d2 ∧ wr = W2) ∨ (I = 3 ∧ v = .slice (some ⟨g3, 0, none⟩) T3 d3 ∧ wr = W3) ∨ (I = 4 ∧ v = .slice (some ⟨g4, 0, none⟩) T4 d4 ∧ wr = W4)))
      case atStart => exact ⟨0, by omega, rfl, .inl ⟨rfl, rfl, rfl⟩⟩
      case round =>
        obtain ⟨I, hkx, rfl, hI⟩ := hrel
        rcases hI with ⟨rfl, rfl, rfl⟩ | ⟨rfl, rfl, rfl⟩ | ⟨rfl, rfl, rfl⟩ | ⟨rfl, rfl, rfl⟩ | ⟨rfl, rfl, rfl⟩
        · go_wp2_with (first
            | (at_builtin; refine Lib.wpList_append_run _ rfl _ _ 124 124 rfl (.slice (some ⟨g0, 0, none⟩) 0 d0) (.slice a0 T1 k0) (by simp [Act.eval]) (by simp [Act.eval]) _ _ (HAP1.out _) ?_))
          go_roundg 4
          all_goals (first | omega | exact ⟨1, by omega, rfl, .inr (.inl ⟨rfl, rfl, rfl⟩)⟩)
        · go_wp2_with (first
            | (at_builtin; refine Lib.wpList_append_run _ rfl _ _ 124 124 rfl (.slice (some ⟨g1, 0, none⟩) T1 d1) (.slice a1 L1 k1) (by simp [Act.eval]) (by simp [Act.eval]) _ _ (HAP2.out _) ?_))
          go_roundg 3
          all_goals (first | omega | exact ⟨2, by omega, rfl, .inr (.inr (.inl ⟨rfl, rfl, rfl⟩))⟩)
        · go_wp2_with (first
            | (at_builtin; refine Lib.wpList_append_run _ rfl _ _ 124 124 rfl (.slice (some ⟨g2, 0, none⟩) T2 d2) (.slice a2 L2 k2) (by simp [Act.eval]) (by simp [Act.eval]) _ _ (HAP3.out _) ?_))
          go_roundg 2
          all_goals (first | omega | exact ⟨3, by omega, rfl, .inr (.inr (.inr (.inl ⟨rfl, rfl, rfl⟩)))⟩)
        · go_wp2_with (first
            | (at_builtin; refine Lib.wpList_append_run _ rfl _ _ 124 124 rfl (.slice (some ⟨g3, 0, none⟩) T3 d3) (.slice a3 L3 k3) (by simp [Act.eval]) (by simp [Act.eval]) _ _ (HAP4.out _) ?_))
          go_roundg 1
          all_goals (first | omega | exact ⟨4, by omega, rfl, .inr (.inr (.inr (.inr ⟨rfl, rfl, rfl⟩)))⟩)
        · go_wp2_with fail
          exact HF.out
end Go.Proofs.YtpjnbhflnbhnoaaGreatDoor
