import Derived.Test.YtkpkiajehclbhaaVbn
namespace Go.Proofs.Ytkpkiajehclbhaa
open Go.RowKit
set_option linter.unusedVariables false
/-- They may come so often. -/
def okO (os : List Int) : Prop := (∀ (j : Nat) (x : Int), os[j]? = some x → 0 ≤ x ∧ x ≤ 1099511627776) ∧ 0 < os.length ∧ os.length ≤ 320
set_option maxHeartbeats 8000000 in
theorem canCome_any (w : World) (v : Value) (os : List Int) (h : SlR RL (fun _ => False) v os w) (hl : os.length ≤ 17592186043904) : Calls Try.prog 56 #[v] w fun e w' => (∃ b, e = .returned (.bool b) ∧ (b = true ↔ okO os)) ∧ w' = w := by
  obtain ⟨P, hP⟩ : ∃ P : Ending → World → Prop, P = fun e w' => (∃ b, e = .returned (.bool b) ∧ (b = true ↔ okO os)) ∧ w' = w := ⟨_, rfl⟩
  rw [← hP]
  have HS : Hid (SlR RL (fun _ => False) v os w) := h
  obtain ⟨a, c, rfl, hc, hc2, hca⟩ := h.form
  have HP : Hid (P = fun e w' => (∃ b, e = .returned (.bool b) ∧ (b = true ↔ okO os)) ∧ w' = w) := hP
  clear hP h
  generalize hL : os.length = L at *
  have hL' : Hid (os.length = L) := hL
  clear hL
  go_enter Try.func56, Try.ntmps56
  go_wp2
  go_loopg [7] L (fun kx i wr => ∃ (I : Nat), I ≤ L ∧ L - I ≤ kx ∧ i = .int .i64 I ∧ wr = w ∧ Hid (∀ j x, j < I → os[j]? = some x → 0 ≤ x ∧ x ≤ 1099511627776))
  case atStart => exact ⟨0, by omega, by omega, rfl, rfl, fun j x hj => by omega⟩
  case round =>
    obtain ⟨I, hI, hkx, rfl, rfl, HI⟩ := hrel
    by_cases hlt : I < L
    · have hlt' : I < os.length := by rw [hL'.out]; exact hlt
      obtain ⟨g, o, rfl, _, hcell⟩ := rl_at HS.out I os[I] (List.getElem?_eq_getElem hlt')
      have hz : (I : Int) < (L : Int) := by omega
      have hxx : os[I]? = some os[I] := List.getElem?_eq_getElem hlt'
      generalize os[I] = x at *
      by_cases hx : 0 ≤ x ∧ x ≤ 1099511627776
      · have HN : Hid (∀ j y, j < I + 1 → os[j]? = some y → 0 ≤ y ∧ y ≤ 1099511627776) := fun j y hj hy => by
          by_cases e : j = I
          · rw [e, hxx] at hy; injection hy with hy; subst hy; exact hx
          · exact HI.out j y (by omega) hy
        have h1 : ¬ x < 0 := by omega
        have h2 : ¬ 1099511627776 < x := by omega
        clear HI HS HP hxx
        go_wp2_with fail
        go_roundg (L - (I + 1))
        case measure => omega
        case rel => exact ⟨I + 1, by omega, by omega, by first | rfl | (congr 1), rfl, HN⟩
      · have HF : Hid (P (.returned (.bool false)) wr) := by
          show P _ _
          rw [HP.out]
          refine ⟨⟨false, rfl, ?_⟩, rfl⟩
          simp only [Bool.false_eq_true, false_iff]
          intro hk
          exact hx (hk.1 I x hxx)
        clear HI HS HP hxx
        by_cases h1 : x < 0
        · go_wp2_with fail
          exact HF.out
        · have h2 : 1099511627776 < x := by omega
          go_wp2_with fail
          exact HF.out
    · obtain rfl : I = L := by omega
      have HF : Hid (∀ b, (b = true ↔ 0 < I ∧ I ≤ 320) → P (.returned (.bool b)) wr) := fun b hb => by
        rw [HP.out]
        refine ⟨⟨b, rfl, ?_⟩, rfl⟩
        rw [hb, okO, hL'.out]
        exact ⟨fun h => ⟨fun j x hx => HI.out j x (by have := (List.getElem?_eq_some_iff.1 hx).1; rw [hL'.out] at this; exact this) hx, h⟩, fun h => h.2⟩
      have hz : ¬ (I : Int) < (I : Int) := by omega
      clear HI HS HP
      by_cases h0 : 0 < I
      · have h0i : (0 : Int) < (I : Int) := by omega
        go_wp2_with fail
        refine HF.out _ ?_
        simp; omega
      · have h0i : ¬ (0 : Int) < (I : Int) := by omega
        go_wp2_with fail
        refine HF.out _ ?_
        simp; omega
/-- What the lengths are. -/
def LnsV (os : List Int) (m : Nat) (ys vals : List Nat) : Prop := (ys.length = 1 ∧ ∀ x, vals.getD x 0 = if x = ys.getD 0 0 then 1 else 0) ∨ (ys.length ≠ 1 ∧ VlI ys (tells (nums os ys) m (2 * (ys.length - 1))) 0 vals)
/-- What Lengths answers. -/
def LensA (os : List Int) (z : Int) (w : World) (e : Ending) (w' : World) : Prop :=
  (¬ (okO os ∧ 1 ≤ z ∧ z ≤ 15) ∧ e = .returned (.tuple #[.slice none 0 0, .int .i64 1]) ∧ Nw w w') ∨
  ∃ m : Nat, z = m ∧ okO os ∧ 1 ≤ m ∧ m ≤ 15 ∧ ((2 ^ m < (psy os os.length).length ∧ e = .returned (.tuple #[.slice none 0 0, .int .i64 2]) ∧ Nw w w') ∨
    ((psy os os.length).length ≤ 2 ^ m ∧ ∃ gl ys vals, e = .returned (.tuple #[.slice (some ⟨gl, 0, none⟩) os.length os.length, .int .i64 0]) ∧ RfS os ys ∧ LnsV os m ys vals ∧ vals.length = os.length ∧ SwR RI gl (toI vals) w' ∧ w.heap.size ≤ gl ∧ Nw w w'))
end Go.Proofs.Ytkpkiajehclbhaa

namespace Go.Proofs.Ytkpkiajehclbhaa
open Go.RowKit
set_option linter.unusedVariables false
theorem RfS.nsi {os : List Int} {ys : List Nat} (h : RfS os ys) (ho : okO os) : NsI os ys ∧ ys.Nodup ∧ ys.length ≤ os.length ∧ ys.length = (psy os os.length).length := by
  have hm : ∀ y ∈ ys, y < os.length ∧ 0 < kof os y := fun y hy => (psy_mem os os.length y).1 (h.perm.mem_iff.1 hy)
  refine ⟨⟨fun y hy => (hm y hy).1, fun y hy => ?_⟩, ?_, ?_, h.perm.length_eq⟩
  · have := ho.1 y _ (kof_at os y (hm y hy).1); exact this
  · refine h.perm.nodup_iff.2 ?_
    unfold psy
    exact List.Pairwise.sublist List.filter_sublist List.nodup_range
  · rw [h.perm.length_eq]; exact psy_len os _
theorem made_ints (w : World) (n : Nat) (hn : n ≤ 1000000) : ∃ W, Hid ((Instr.makeSlice 54 (.int .i64 n) (.int .i64 n)).run Try.prog w = .ok (.slice (some ⟨w.heap.size, 0, none⟩) n n) W) ∧ SwR RI w.heap.size (toI (List.replicate n 0)) W ∧ Nw w W ∧ W.heap.size = w.heap.size + 1 := by
  obtain ⟨W, h1, ⟨xs, e1, e2, e3, e4, e5⟩, h3, h4⟩ := OwR.made riOk w n n (Nat.le_refl _) (by simp only [RI]; omega) (by omega)
  refine ⟨W, h1, ?_, h3, h4⟩
  rw [List.length_replicate] at e1 e2 e3
  have e1 : n = xs.length := by
    generalize xs.length = q at e1
    cases e1
    rfl
  have e2' : xs = toI (List.replicate n 0) := by
    rw [List.take_of_length_le (by omega)] at e2
    rw [e2]; simp [toI, RI]
  rw [← e2']
  exact e5
set_option maxHeartbeats 32000000 in
set_option maxRecDepth 100000 in
theorem lengths_any (w : World) (v : Value) (os : List Int) (z : Int) (h : SlR RL (fun k => w.heap.size ≤ k) v os w) (hl : os.length ≤ 17592186043904) : Calls Try.prog 39 #[v, .int .i64 z] w (LensA os z w) := by
  obtain ⟨P, hP⟩ : ∃ P : Ending → World → Prop, P = LensA os z w := ⟨_, rfl⟩
  rw [← hP]
  have HC := canCome_any w v os (h.mono (fun _ h => h.elim)) hl
  by_cases hok : okO os ∧ 1 ≤ z ∧ z ≤ 15
  · obtain ⟨ho, hz1, hz2⟩ := hok
    obtain ⟨m, rfl⟩ : ∃ m : Nat, z = (m : Int) := ⟨z.toNat, by omega⟩
    have hm1 : 1 ≤ m := by omega
    have hm2 : m ≤ 15 := by omega
    have hl320 := ho.2.2
    have HC : Hid (Calls Try.prog 56 #[v] w fun e w' => e = .returned (.bool true) ∧ w' = w) := HC.mono (by
      rintro e w' ⟨⟨b, rfl, hb⟩, rfl⟩
      rw [hb.2 ho]; exact ⟨rfl, rfl⟩)
    obtain ⟨a0, c0, rfl, hc0, hc02, _⟩ := h.form
    have HR : Hid (Calls Try.prog 57 #[.slice a0 os.length c0] w fun e w1 => ∃ a c k, e = .returned (.slice a k c) ∧ k ≤ 320 ∧ k ≤ c ∧ c < 9223372036854775808 ∧ Hid (∃ og ys, ys.length = k ∧ OgR RI og (.slice a k c) (toI ys) w1 ∧ (∀ g, og = some g → w.heap.size ≤ g) ∧ RfS os ys ∧ Nw w w1)) := by
      refine (rarest_any w _ os h hl320).mono ?_
      rintro e w1 ⟨og, a, c, ys, rfl, k1, k2, k3, k4⟩
      obtain ⟨a', c', e', q1, q2⟩ := k1.form
      rw [toI_length] at e' q1
      have hcc : c' = c := by
        generalize ys.length = q at e'
        cases e'; rfl
      subst hcc
      exact ⟨a, c', ys.length, rfl, by have := (k3.nsi ho).2.2.1; omega, q1, q2, og, ys, rfl, k1, k2, k3, k4⟩
    have HP : Hid (P = LensA os (m : Int) w) := hP
    have HO : Hid (okO os) := ho
    have HH : Hid (SlR RL (fun k => w.heap.size ≤ k) (.slice a0 os.length c0) os w) := h
    clear hP h ho hz1 hz2
    obtain ⟨T, hT⟩ : ∃ T, 2 ^ m = T := ⟨_, rfl⟩
    have hTi : (2 : Int) ^ m = (T : Int) := by rw [← hT]; push_cast; rfl
    have hTb : T ≤ 32768 := by
      rw [← hT]
      exact Nat.le_trans (Nat.pow_le_pow_right (by decide) hm2) (by decide)
    have hmi1 : ¬ (m : Int) < 1 := by omega
    have hmi2 : ¬ (15 : Int) < (m : Int) := by omega
    have HT : Hid (2 ^ m = T) := hT
    clear hT
    have hmf : ∀ (fn : Fn) (first cap : Array Value) (w : World), (Instr.makeFunc fn first cap).run Try.prog w = .ok (.func fn first cap) w := fun _ _ _ _ => rfl
    generalize hL : os.length = L at *
    have HL : Hid (os.length = L) := hL
    clear hL
    go_enter Try.func39, Try.ntmps39
    go_upto_region 4 with (first
      | (go_at_call 56; (with_reducible refine HC.out.mono ?_); rintro e w0 ⟨rfl, rfl⟩)
      | (go_at_call 57; (with_reducible refine HR.out.mono ?_); rintro e w1 ⟨a, c, k, rfl, hk320, hkc, hc2, H1⟩))
    clear HC HR
    by_cases hkT : T < k
    · have hkTi : (T : Int) < (k : Int) := by omega
      have HF : Hid (P (.returned (.tuple #[.slice none 0 0, .int .i64 2])) w1) := by
        obtain ⟨og, ys, e1, e2, e3, e4, e5⟩ := H1.out
        show P _ _
        rw [HP.out]
        refine .inr ⟨m, rfl, HO.out, hm1, hm2, .inl ⟨?_, rfl, e5⟩⟩
        rw [HT.out, ← (e4.nsi HO.out).2.2.2, e1]; exact hkT
      clear H1 HP HO HH
      go_wp2_with fail
      exact HF.out
    · have hkTi : ¬ (T : Int) < (k : Int) := by omega
      obtain ⟨W2, HMk, g1, g2, g3⟩ := made_ints w1 L (by omega)
      have HW2 : Hid (SwR RI w1.heap.size (toI (List.replicate L 0)) W2 ∧ Nw w1 W2 ∧ W2.heap.size = w1.heap.size + 1) := ⟨g1, g2, g3⟩
      clear g1 g2 g3
      go_upto_region 7 with (first | (at_make; refine wpL_mk rfl _ _ 54 rfl (L : Int) (L : Int) (by simp [Act.eval]) (by simp [Act.eval]) HMk.out ?_))
      obtain ⟨W3, hW3⟩ : ∃ W3, W2.alloc (.cells #[.slice (some ⟨w1.heap.size, 0, none⟩) L L] 54) = W3 := ⟨_, rfl⟩
      obtain ⟨lb, hlb⟩ : ∃ lb, lb = W2.heap.size := ⟨_, rfl⟩
      obtain ⟨gl, hgl⟩ : ∃ gl, gl = w1.heap.size := ⟨_, rfl⟩
      have HLn : Hid (LnI lb gl L (List.replicate L 0) W3 ∧ Nw w1 W3 ∧ w1.heap.size ≤ gl) := by
        obtain ⟨q1, q2, q3⟩ := HW2.out
        have hn : Nw W2 W3 := by rw [← hW3]; exact (Fr.refl _ _).alloc _
        refine ⟨⟨?_, by rw [hgl]; exact q1.kept hn (fun h => h), by simp, by omega, fun x hx => ?_, by omega⟩, q2.trans hn, by omega⟩
        · rw [hlb, ← hW3, new_heap, hgl]
        · rw [List.mem_replicate] at hx; omega
      rw [← hgl] at hW3 ⊢
      rw [hW3, ← hlb]
      clear hgl hlb hW3 HW2 HMk
      by_cases hk1 : k = 1
      · have hki : ((k : Int) == 1) = true := by rw [hk1]; rfl
        obtain ⟨og, ys, e1, e2, e3, e4, e5⟩ := H1.out
        have hy0 : 0 < ys.length := by omega
        obtain ⟨y, hy⟩ : ∃ y, ys.getD 0 0 = y := ⟨_, rfl⟩
        have hyl : y < L := by
          have := (e4.nsi HO.out).1.lt _ (mem_getD hy0)
          rw [hy, HL.out] at this; exact this
        have hyi : (y : Int) < (L : Int) := by omega
        obtain ⟨l1, l2, l3⟩ := HLn.out
        have hsy := (e2.slr riOk).nw l2
        obtain ⟨gy, oy, rfl, _, ky⟩ := ri_at hsy 0 _ (toI_at ys 0 hy0)
        rw [hy, Nat.add_zero] at ky
        have k0 := (row_cell l1.b 0 _ rfl).1
        have kk := l1.v.cell riOk y 0 _ _ (toI_at _ y (by rw [l1.len]; exact hyl)) rfl
        rw [show RI.k = 1 from rfl, Nat.mul_one, Nat.add_zero] at kk
        obtain ⟨k1, k2⟩ := kk
        obtain ⟨vz, hvz⟩ : ∃ vz : Nat, (List.replicate L 0).getD y 0 = vz := ⟨_, rfl⟩
        rw [hvz] at k1
        have hset := l1.set y 1 (by omega) (1 : Int) rfl
        have HF : Hid ((W3.setCell ⟨gl, y, none⟩ (.int .i64 1)).drew.cell? ⟨lb, 0, none⟩ = some (.slice (some ⟨gl, 0, none⟩) L L) ∧ P (.returned (.tuple #[.slice (some ⟨gl, 0, none⟩) L L, .int .i64 0])) (W3.setCell ⟨gl, y, none⟩ (.int .i64 1)).drew) := by
          have hn := hset.1.nw ((Fr.refl _ _).drew)
          refine ⟨(row_cell hn.b 0 _ rfl).1, ?_⟩
          rw [HP.out]
          refine .inr ⟨m, rfl, HO.out, hm1, hm2, .inr ⟨?_, gl, ys, _, by rw [HL.out], e4, .inl ⟨by omega, fun x => ?_⟩, by rw [HL.out]; exact hn.len, hn.v, Nat.le_trans e5.size l3, ?_⟩⟩
          · rw [HT.out, ← (e4.nsi HO.out).2.2.2, e1]; omega
          · rw [getD_set _ _ _ _ (by simp; exact hyl), hy]
            by_cases e : x = y
            · rw [if_pos e, if_pos e]
            · rw [if_neg e, if_neg e, List.getD_eq_getElem?_getD, List.getElem?_replicate]
              split <;> rfl
          · exact (Fr.then (e5.trans l2) hset.2 (fun i hi => .inr (by rw [hi]; exact Nat.le_trans e5.size l3))).drew
        have hkp : (0 : Int) < (k : Int) := by omega
        clear H1 e2 e3 e4 e5 l1 l2 l3 hsy HLn HP HO HH hset hk1 e1 hvz
        go_wp2_with fail
        go_region
        obtain ⟨x0, x1⟩ := HF.out
        have HF2 : Hid (P (.returned (.tuple #[.slice (some ⟨gl, 0, none⟩) L L, .int .i64 0])) (W3.setCell ⟨gl, y, none⟩ (.int .i64 1)).drew) := x1
        clear x1 HF
        generalize (W3.setCell ⟨gl, y, none⟩ (.int .i64 1)).drew = W4 at *
        go_wp2_with fail
        exact HF2.out
      · have hki : ((k : Int) == 1) = false := by simp; omega
        have HSh : Hid (Calls Try.prog 58 #[.slice a0 L c0, .slice a k c, .int .i64 m, .func (.func 59) #[] #[.pointer (some ⟨lb, 0, none⟩)]] W3 fun e w' => (∃ r, e = .returned r) ∧ w'.cell? ⟨lb, 0, none⟩ = some (.slice (some ⟨gl, 0, none⟩) L L) ∧ Hid (P (.returned (.tuple #[.slice (some ⟨gl, 0, none⟩) L L, .int .i64 0])) w')) := by
          obtain ⟨og, ys, e1, e2, e3, e4, e5⟩ := H1.out
          obtain ⟨l1, l2, l3⟩ := HLn.out
          obtain ⟨n1, n2, n3, n4⟩ := e4.nsi HO.out
          have hglt := l1.v.lt
          have ho := HH.out.nw (e5.trans l2)
          have hs1 := e5.size
          have hs2 := l2.size
          have hyS : SlR RI (fun q => q = gl ∨ W3.heap.size ≤ q) (.slice a k c) (toI ys) W3 := by
            refine ((e2.slr riOk).nw l2).mono (fun q hq he => ?_)
            have hlt := e2.lt q he
            omega
          have hS : ShI lb gl L os ys (.slice a0 L c0) (.slice a k c) (List.replicate L 0) W3 := by
            refine ⟨ho.mono (fun q hq => by omega), hyS, n1, n2, HL.out, hl320, by rw [← HL.out]; exact n3, l1, fun j hj => ?_, fun x _ => ?_⟩
            · have e0 : ∀ x, (List.replicate L 0).getD x 0 = 0 := fun x => by
                rw [List.getD_eq_getElem?_getD, List.getElem?_replicate]
                split <;> rfl
              rw [e0]; simp [lnt]
            · rw [List.getD_eq_getElem?_getD, List.getElem?_replicate]
              split <;> rfl
          refine (share_any hS m hm1 hm2 (by rw [HT.out, e1]; omega)).mono ?_
          rintro e w' ⟨⟨r, rfl⟩, ⟨vals, r1, r2⟩, r3⟩
          refine ⟨⟨r, rfl⟩, (row_cell r1.b 0 _ rfl).1, ?_⟩
          show P _ _
          rw [HP.out]
          exact .inr ⟨m, rfl, HO.out, hm1, hm2, .inr ⟨by rw [HT.out, ← n4, e1]; omega, gl, ys, vals, by rw [HL.out], e4, .inr ⟨by omega, r2⟩, by rw [HL.out]; exact r1.len, r1.v, by omega, Fr.then (e5.trans l2) r3 (fun i hi => .inr (by omega))⟩⟩
        clear H1 HLn HP HO HH hk1
        go_wp2_with (first | (go_at_call 58; (with_reducible refine HSh.out.mono ?_); rintro e w4 ⟨⟨r, rfl⟩, x0, H4⟩))
        exact H4.out
  · have HF : Hid (P (.returned (.tuple #[.slice none 0 0, .int .i64 1])) w) := by
      show P _ _
      rw [hP]; exact .inl ⟨hok, rfl, Fr.refl _ _⟩
    by_cases ho : okO os
    · have HC : Hid (Calls Try.prog 56 #[v] w fun e w' => e = .returned (.bool true) ∧ w' = w) := HC.mono (by
        rintro e w' ⟨⟨b, rfl, hb⟩, rfl⟩
        rw [hb.2 ho]; exact ⟨rfl, rfl⟩)
      obtain ⟨a0, c0, rfl, hc0, hc02, _⟩ := h.form
      generalize os.length = L at *
      clear hP h
      by_cases hz1 : z < 1
      · clear hok ho
        go_enter Try.func39, Try.ntmps39
        go_wp2_with (first | (go_at_call 56; (with_reducible refine HC.out.mono ?_); rintro e w0 ⟨rfl, rfl⟩))
        exact HF.out
      · have hz2 : 15 < z := by
          rcases Int.lt_or_le 15 z with h | h
          · exact h
          · exact absurd ⟨ho, by omega, h⟩ hok
        clear hok ho
        go_enter Try.func39, Try.ntmps39
        go_wp2_with (first | (go_at_call 56; (with_reducible refine HC.out.mono ?_); rintro e w0 ⟨rfl, rfl⟩))
        exact HF.out
    · have HC : Hid (Calls Try.prog 56 #[v] w fun e w' => e = .returned (.bool false) ∧ w' = w) := HC.mono (by
        rintro e w' ⟨⟨b, rfl, hb⟩, rfl⟩
        cases b with
        | true => exact absurd (hb.1 rfl) ho
        | false => exact ⟨rfl, rfl⟩)
      obtain ⟨a0, c0, rfl, hc0, hc02, _⟩ := h.form
      generalize os.length = L at *
      clear hP h hok ho
      go_enter Try.func39, Try.ntmps39
      go_wp2_with (first | (go_at_call 56; (with_reducible refine HC.out.mono ?_); rintro e w0 ⟨rfl, rfl⟩))
      exact HF.out
end Go.Proofs.Ytkpkiajehclbhaa
