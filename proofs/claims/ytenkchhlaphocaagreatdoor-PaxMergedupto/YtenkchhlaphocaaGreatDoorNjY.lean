import Derived.Test.YtenkchhlaphocaaGreatDoorNjX
import Derived.Test.YtenkchhlaphocaaGreatDoorNjQ
import Derived.Laws.MakeOwn
import Derived.Lib.AppendIntMem
namespace Go.Proofs.YtenkchhlaphocaaGreatDoor
open Go.RowKit
set_option linter.unusedVariables false
/-! ### length, Print -/
theorem prCell (w : World) (x : Pr) : (w.alloc (.cells (prC x) 28)).cell? ⟨w.heap.size, 0, none⟩ = some (.string (str x.1)) ∧ (w.alloc (.cells (prC x) 28)).cell? ⟨w.heap.size, 1, none⟩ = some (.string (str x.2)) := by
  have := newHeap w (.cells (prC x) 28)
  constructor <;> (unfold World.cell?; rw [this]; rfl)
set_option maxHeartbeats 4000000 in
set_option maxRecDepth 100000 in
theorem lng_any (x : Pr) (h1 : x.1.length ≤ 1000000000) (h2 : x.2.length ≤ 1000000000) (w : World) : Calls Tryz.prog 18 #[.agg (prC x)] w fun e w' => e = .returned (.int .i64 (lng x : Nat)) ∧ Nw w w' := by
  obtain ⟨P, hP⟩ : ∃ P : Ending → World → Prop, P = fun e w' => e = .returned (.int .i64 (lng x : Nat)) ∧ Nw w w' := ⟨_, rfl⟩
  rw [← hP]
  have HF : Hid (∀ N V, lng x = N → Nw w V → P (.returned (.int .i64 (N : Nat))) V) := fun N V hx hV => by rw [hP, hx]; exact ⟨rfl, hV⟩
  clear hP
  obtain ⟨k, v⟩ := x
  simp only at h1 h2
  have s1 := str_size k
  have s2 := str_size v
  have hlng : lng (k, v) = lngA 7 (k.length + v.length + 3) 1 := rfl
  obtain ⟨S, hS⟩ : ∃ S, k.length + v.length + 3 = S := ⟨_, rfl⟩
  rw [hS] at hlng
  have hSi : ((str k).size : Int) + ((str v).size : Int) + 3 = (S : Int) := by omega
  have hS2 : S ≤ 2000000003 := by omega
  obtain ⟨W, hW⟩ : ∃ W, w.alloc (.cells #[.string (str k), .string (str v)] 28) = W := ⟨_, rfl⟩
  have HN : Hid (Nw w W) := by rw [← hW]; exact (Fr.refl _ _).alloc _
  have HW := tHid hW
  have z1 : (str k).size ≤ 1000000000 := by omega
  have z2 : (str v).size ≤ 1000000000 := by omega
  obtain ⟨cc0, cc1⟩ := prCell w (k, v)
  simp only [prC] at cc0 cc1
  rw [hW] at cc0 cc1
  show Calls Tryz.prog 18 #[.agg #[.string (str k), .string (str v)]] w P
  have HL := tHid hlng
  clear s1 s2 hlng hS hW h1 h2
  generalize str k = sk at *
  generalize str v = sv at *
  go_enter Tryz.func18, Tryz.ntmps18
  go_upto_region 1 with fail
  rw [HW.out]
  go_upto_region 3 with fail
  go_loopg [3, 4, 13] 7 (fun kx n a i wr => ∃ (I A : Nat), I ≤ 7 ∧ 7 - I ≤ kx ∧ i = .int .i64 I ∧ n = .int .i64 ((S + I : Nat) : Int) ∧ a = .int .i64 (A : Nat) ∧ A ≤ 10000000 ∧ wr = W ∧ Hid (A = 10 ^ I ∧ lng (k, v) = lngA (7 - I) (S + I) A))
  case atStart => exact ⟨0, 1, by omega, by omega, rfl, by first | rfl | (rw [Nat.add_zero]; congr 1), rfl, by omega, rfl, rfl, HL.out⟩
  case round =>
    obtain ⟨I, A, hI, hkx, rfl, rfl, rfl, hA, hw, HV⟩ := hrel
    have hw' := hw.symm
    subst hw'
    clear hw
    obtain ⟨hA10, hv⟩ := HV.out
    by_cases hlt : I < 7
    · obtain ⟨d, hd⟩ : ∃ d, 7 - I = d + 1 := ⟨6 - I, by omega⟩
      rw [hd, lngA] at hv
      have hp : 10 ^ (I + 1) = 10 * 10 ^ I := by rw [Nat.pow_succ, Nat.mul_comm]
      have hp7 : 10 ^ (I + 1) ≤ 10 ^ 7 := Nat.pow_le_pow_right (by decide) (by omega)
      have hp7' : (10 : Nat) ^ 7 = 10000000 := rfl
      obtain ⟨A2, hA2⟩ : ∃ A2, A * 10 = A2 := ⟨_, rfl⟩
      obtain ⟨N, hN⟩ : ∃ N, S + I = N := ⟨_, rfl⟩
      obtain ⟨N2, hN2⟩ : ∃ N2, N + 1 = N2 := ⟨_, rfl⟩
      rw [hA2, hN, hN2] at hv
      rw [hN]
      have q1 : (N : Int) + 1 = (N2 : Int) := by omega
      have q2 : (A : Int) * 10 = (A2 : Int) := by omega
      have q3 : A2 ≤ 10000000 := by omega
      have q4 : N2 ≤ 2000000011 := by omega
      have hlt' : (I : Int) < 7 := by omega
      have HNN : Hid (S + (I + 1) = N2) := by show _ = _; omega
      have HAA : Hid (A2 = 10 ^ (I + 1)) := by show _ = _; omega
      by_cases hc : N2 < A2
      · rw [if_pos hc] at hv
        have HF2 := tHid (HF.out _ W hv HN.out)
        have hc' : (N2 : Int) < (A2 : Int) := by omega
        clear HF HV hv hA10 hp hp7 hp7' hA2 hN hN2 hd
        go_wp2_with fail
        first | exact HF2.out | (go_ret; exact HF2.out)
      · rw [if_neg hc] at hv
        have hc' : ¬ (N2 : Int) < (A2 : Int) := by omega
        have HV2 : Hid (A2 = 10 ^ (I + 1) ∧ lng (k, v) = lngA (7 - (I + 1)) (S + (I + 1)) A2) := ⟨HAA.out, by rw [HNN.out, show 7 - (I + 1) = d by omega]; exact hv⟩
        clear HF HV hv hA10 hp hp7 hp7' hA2 hN hN2 hd
        go_wp2_with fail
        go_roundg (7 - (I + 1))
        case measure => omega
        case rel => exact ⟨I + 1, A2, by omega, by omega, by first | rfl | (congr 1), by first | (rw [HNN.out]; done) | (rw [HNN.out]; congr 1), by first | rfl | (congr 1), q3, rfl, HV2⟩
    · obtain rfl : I = 7 := by omega
      have HF2 : Hid (P (.returned (.int .i64 0)) W) := HF.out 0 W (by rw [hv]; rfl) HN.out
      clear HF HV hv hA10
      go_wp2_with fail
      first | exact HF2.out | (go_ret; exact HF2.out)
/-- How heavy pairs are. -/
def wtP (l : List Pr) : Nat := (l.map (fun x => x.1.length + x.2.length + 12)).sum
theorem wtP_mem {l : List Pr} {x : Pr} (h : x ∈ l) : x.1.length + x.2.length + 12 ≤ wtP l := by
  induction l with
  | nil => simp at h
  | cons y r ih =>
    unfold wtP at ih ⊢
    rw [List.map_cons, List.sum_cons]
    rcases List.mem_cons.1 h with rfl | h
    · omega
    · have := ih h; omega
theorem lng_le (x : Pr) : lng x ≤ x.1.length + x.2.length + 10 := by
  rcases lng_spec x with ⟨h, _⟩ | ⟨e, h1, h2, h3, _⟩ <;> omega
theorem prt_le (l : List Pr) (h : ∀ x ∈ l, lng x ≠ 0) : (prt l).length + 2 * l.length ≤ wtP l := by
  induction l with
  | nil => simp [prt, wtP]
  | cons x r ih =>
    have h1 := ih (fun y hy => h y (by simp [hy]))
    have h2 := rec1_len x (h x (by simp))
    have h3 := lng_le x
    rw [prt, List.length_append, h2, List.length_cons]
    unfold wtP at h1 ⊢
    rw [List.map_cons, List.sum_cons]
    omega
theorem wtP_take (l : List Pr) (I : Nat) : wtP (l.take I) ≤ wtP l := by
  unfold wtP
  conv => rhs; rw [← List.take_append_drop I l, List.map_append, List.sum_append]
  omega
/-- A row of bytes of the call's own. -/
def BO (B : Nat) (v : Value) (l : Bs) (w : World) : Prop := w.ownsRow B 5 1 v l.length (l.map bv)
theorem bo_sl {B : Nat} {v : Value} {l : Bs} {w : World} (h : BO B v l w) : Sl (fun k => k < B) v l w := by
  obtain ⟨h1, h2⟩ := h
  rcases h2 with ⟨rfl, h2⟩ | ⟨g, cap, cur, rfl, hg, hh, hc, hm, hs, ht⟩
  · exact .inl ⟨none, rfl, List.length_eq_zero_iff.1 h2⟩
  · refine .inr ⟨g, by omega, 0, cap, rfl, hc, by unfold maxLen at hm; omega, fun j hj => ?_⟩
    rw [Nat.zero_add]
    have e : cur[j]? = some (bv l[j]) := by
      have := congrArg (fun q => q[j]?) ht
      simp only [Nat.mul_one] at this
      rw [List.getElem?_take, if_pos hj, List.getElem?_map, List.getElem?_eq_getElem hj] at this
      simpa using this
    simp [World.cell?, hh, e]
theorem bo_nw {B : Nat} {v : Value} {l : Bs} {w w' : World} (h : BO B v l w) (f : Nw w w') : BO B v l w' := by
  obtain ⟨h1, h2⟩ := h
  refine ⟨h1, ?_⟩
  rcases h2 with h2 | ⟨g, cap, cur, rfl, hg, hh, hc⟩
  · exact .inl h2
  · exact .inr ⟨g, cap, cur, rfl, hg, f.heap hh, hc⟩
theorem bv_u8 (l : Bs) : Lib.byteCells (l.map u8) = l.map bv := by
  unfold Lib.byteCells
  rw [List.map_map]
  apply List.map_congr_left
  intro x _
  simp only [Function.comp, u8_nat]
theorem bo_num {W0 V : World} {v : Value} {l : Bs} (hE : EnvT W0) (hN : Nw W0 V) (h : BO W0.heap.size v l V) (hl : l.length ≤ 1000000000) (n : Nat) (hn : n < 9223372036854775808) : Calls Tryz.prog 19 #[v, .int .i64 n, .int .i64 10] V fun e w' => ∃ v', e = .returned v' ∧ Hid (BO W0.heap.size v' (l ++ dec n) w' ∧ Nw W0 w' ∧ ∀ (k : Nat) (cs : Array Value) (T : Nat), T ≠ 5 → V.heap[k]? = some (.cells cs T) → w'.heap[k]? = some (.cells cs T)) := by
  refine (sh_strconv_AppendInt_10 W0.heap.size l.length (n : Int) (by omega) (by omega) v (l.map bv) V h hN.size (by omega) ((Lib.tabBelow_of_tabIs hE.tab).on (nw_below hN))).mono ?_
  rintro e w' ⟨v', rfl, h1, h2, h3⟩
  have hi : Lib.itoa (n : Int) = (dec n).map u8 := by
    rw [← dec_lib]
    unfold Lib.itoa
    rw [if_neg (by omega), Int.toNat_natCast]
  refine ⟨v', rfl, ?_, ⟨((nw_below hN).trans h2).os, ((nw_below hN).trans h2).tape, ((nw_below hN).trans h2).output, ((nw_below hN).trans h2).size, fun k hk _ => ((nw_below hN).trans h2).block k hk⟩, fun k cs T hT hk => h3 k _ hk (by simp) (fun c fz e => by injection e with _ e _; exact hT e)⟩
  rw [hi, bv_u8, List.length_map] at h1
  unfold BO
  rw [List.length_append, List.map_append]
  exact h1
theorem bo_str {W0 V : World} {v : Value} {l : Bs} (hN : Nw W0 V) (h : BO W0.heap.size v l V) (m : Bs) (hl : l.length + m.length ≤ 1000000000) : ∃ v' W, (Builtin.append_ #[32, 9] 32 #[v, .string (str m)]).run Tryz.prog V = .ok v' W ∧ BO W0.heap.size v' (l ++ m) W ∧ Nw W0 W := by
  obtain ⟨i, hi, hz, hs, hby⟩ := infoB
  have hsz := str_size m
  obtain ⟨v', W, h1, h2, h3, _⟩ := Lib.run_append_own_string (P := Tryz.prog) V W0.heap.size 32 9 32 5 i Tryz.underlying32 Tryz.underlying9 hi hz hs hby v l.length (l.map bv) h (str m) (by unfold maxLen; omega) (by omega) hN.size
  refine ⟨v', W, h1, ?_, ?_⟩
  · unfold BO
    rw [strCells_bys, bys_str, hsz] at h2
    rw [List.length_append, List.map_append]
    exact h2
  · have hown : ∀ k, v.ownBlock = some k → W0.heap.size ≤ k := fun k hk => (World.ownsRow.lt h k hk).1
    refine ⟨h3.os.trans hN.os, h3.tape.trans hN.tape, h3.output.trans hN.output, Nat.le_trans hN.size h3.size, fun k hk _ => ?_⟩
    rw [h3.block k (Nat.lt_of_lt_of_le hk hN.size) (fun e => by have := hown k e.symm; omega)]
    exact hN.block k hk (fun h => h)
end Go.Proofs.YtenkchhlaphocaaGreatDoor
