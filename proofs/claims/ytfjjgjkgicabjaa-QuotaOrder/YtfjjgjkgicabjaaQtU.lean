import Derived.Test.YtfjjgjkgicabjaaQtT
namespace Go.Proofs.Ytfjjgjkgicabjaa
open Go.RowKit Go.MuLone
set_option linter.unusedVariables false
set_option maxHeartbeats 4000000 in
theorem qord_no (w : World) (q : Qt) (hc : q.can = false) (v1 v2 : Value) :
    Calls Try.prog 6 #[.agg q.C, v1, v2] w fun e w' => e = .returned (.bool true) ∧ Nw w w' := by
  have HV : Hid (∀ V, V.heap[w.heap.size]? = some (.cells q.C 23) → Calls Try.prog 10 #[] V fun e w' => e = .returned (.bool true) ∧ Hid (Nw V w' ∧ w'.heap[w.heap.size]? = some (.cells q.C 23)) ∧ w'.cell? ⟨w.heap.size, 0, none⟩ = some (.int .i64 q.B) ∧ w'.cell? ⟨w.heap.size, 1, none⟩ = some (.int .i64 q.E) ∧ w'.cell? ⟨w.heap.size, 2, none⟩ = some (.int .i64 q.D)) := fun V hV => (lives_any V).mono (fun e w' ⟨e1, e3⟩ => ⟨e1, ⟨e3, e3.heap hV⟩, (quota_row hV e3).2⟩)
  have H1 : Hid (∀ V, V.heap[w.heap.size]? = some (.cells q.C 23) → Calls Try.prog 11 #[.agg q.C] V fun e w' => e = .returned (.tuple #[.pointer none, .int .i64 1]) ∧ Hid (Nw V w' ∧ w'.heap[w.heap.size]? = some (.cells q.C 23)) ∧ w'.cell? ⟨w.heap.size, 0, none⟩ = some (.int .i64 q.B) ∧ w'.cell? ⟨w.heap.size, 1, none⟩ = some (.int .i64 q.E) ∧ w'.cell? ⟨w.heap.size, 2, none⟩ = some (.int .i64 q.D)) := fun V hV => (new_no V q hc).mono (fun e w' ⟨e1, e3⟩ => ⟨e1, ⟨e3, e3.heap hV⟩, (quota_row hV e3).2⟩)
  clear hc
  unfold Qt.C at *
  go_enter Try.func6, Try.ntmps6
  go_wp2_with (first
    | (go_at_call 10; with_reducible refine (HV.out _ (newHeapQ _ _)).mono ?_; rintro e w1 ⟨rfl, K1, r1, r2, r3⟩)
    | (go_at_call 11; with_reducible refine (H1.out _ K1.out.2).mono ?_; rintro e w2 ⟨rfl, K2, t1, t2, t3⟩)
    | (go_at_call 11; with_reducible refine (H1.out _ K2.out.2).mono ?_; rintro e w3 ⟨rfl, K3, u1, u2, u3⟩))
  go_ret
  exact ⟨rfl, ((((Fr.refl _ _).alloc _).trans K1.out.1).trans K2.out.1).trans K3.out.1⟩
theorem idx_eq (k T I : Nat) (hk : 0 < k) (hI : k ≤ I) (hl : I ≤ 1172812402961) : (wrap64 ((k : Int) - 1 + (T : Int) % (I : Int))).tmod (I : Int) = (((k - 1 + T) % I : Nat) : Int) := by
  have h1 : ((T : Int) % (I : Int)) = ((T % I : Nat) : Int) := by omega
  have h2 : T % I < I := Nat.mod_lt _ (by omega)
  have h3 : (k : Int) - 1 + (T : Int) % (I : Int) = ((k - 1 + T % I : Nat) : Int) := by rw [h1]; omega
  rw [h3, IntWalk.wrap64_in _ (by omega), Int.tmod_eq_emod_of_nonneg (by omega)]
  rw [show (((k - 1 + T) % I : Nat) : Int) = (((k - 1 + T % I) % I : Nat) : Int) by rw [Nat.add_mod_mod]]
  omega
set_option maxHeartbeats 16000000 in
set_option maxRecDepth 100000 in
theorem qord_yes (w : World) (q : Qt) (hq : q.Ok) (hc : q.can = true) (a : Option Addr) (c : Nat) (l : List En) (hl : SlR RE (fun k => w.heap.size ≤ k) (.slice a l.length c) l w) (hok : ∀ x ∈ l, x.Ok) (hlen : l.length ≤ 1172812402961) (x2 : Int) (hx0 : -9223372036854775808 ≤ x2) (hx1 : x2 ≤ 9223372036854775807) :
    Calls Try.prog 6 #[.agg q.C, .slice a l.length c, .int .i64 x2] w fun e w' => e = .returned (.bool true) ∧ Nw w w' := by
  have HV : Hid (∀ V, V.heap[w.heap.size]? = some (.cells q.C 23) → Nw w V → Calls Try.prog 10 #[] V fun e w' => e = .returned (.bool true) ∧ Hid (Nw w w' ∧ w'.heap[w.heap.size]? = some (.cells q.C 23)) ∧ w'.cell? ⟨w.heap.size, 0, none⟩ = some (.int .i64 q.B) ∧ w'.cell? ⟨w.heap.size, 1, none⟩ = some (.int .i64 q.E) ∧ w'.cell? ⟨w.heap.size, 2, none⟩ = some (.int .i64 q.D)) := fun V hV hn => (lives_any V).mono (fun e w' ⟨e1, e3⟩ => ⟨e1, ⟨hn.trans e3, e3.heap hV⟩, (quota_row hV e3).2⟩)
  have H1 : Hid (∀ V, Nw w V ∧ V.heap[w.heap.size]? = some (.cells q.C 23) → Calls Try.prog 11 #[.agg q.C] V fun e w' => ∃ pa, e = .returned (.tuple #[.pointer (some ⟨pa, 0, none⟩), .int .i64 0]) ∧ Hid (MtB pa q ⟨0, 0⟩ w' ∧ w.heap.size ≤ pa ∧ Nw w w') ∧ w'.cell? ⟨w.heap.size, 0, none⟩ = some (.int .i64 q.B) ∧ w'.cell? ⟨w.heap.size, 1, none⟩ = some (.int .i64 q.E) ∧ w'.cell? ⟨w.heap.size, 2, none⟩ = some (.int .i64 q.D)) := fun V hV => (new_yes V q hc).mono (fun e w' ⟨pa, e1, e2, e3, e4⟩ => ⟨pa, e1, ⟨e3, Nat.le_trans hV.1.size e2, hV.1.trans e4⟩, (quota_row hV.2 e4).2⟩)
  have H2 : Hid (∀ pa V, MtB pa q ⟨0, 0⟩ V ∧ w.heap.size ≤ pa ∧ Nw w V → Calls Try.prog 11 #[.agg q.C] V fun e w' => ∃ pb, e = .returned (.tuple #[.pointer (some ⟨pb, 0, none⟩), .int .i64 0]) ∧ Hid (QO w pa pb q ⟨0, 0⟩ ⟨0, 0⟩ w')) := fun pa V hV => (new_yes V q hc).mono (fun e w' ⟨pb, e1, e2, e3, e4⟩ => ⟨pb, e1, e4.heap hV.1, e3, hV.2.2.trans e4, hV.2.1, Nat.le_trans hV.2.2.size e2, by have := hV.1.lt; omega⟩)
  have HA : Hid (∀ pa pb s sb (e : En), e.Ok → s.In q → ∀ V, QO w pa pb q s sb V → Calls Try.prog 13 #[.pointer (some ⟨pa, 0, none⟩), .agg e.C] V fun r w' => r = .returned (.int .i64 ((tkE q s e : Nat) : Int)) ∧ Hid (QO w pa pb q (tkS q s e) sb w')) := fun pa pb s sb e he hi V h => (mtake_any V pa q s e h.a hi hq he).mono (fun r w' ⟨e1, e2, e3⟩ => ⟨e1, h.onA e2 e3⟩)
  have HBt : Hid (∀ pa pb sa s (e : En), e.Ok → s.In q → ∀ V, QO w pa pb q sa s V → Calls Try.prog 13 #[.pointer (some ⟨pb, 0, none⟩), .agg e.C] V fun r w' => r = .returned (.int .i64 ((tkE q s e : Nat) : Int)) ∧ Hid (QO w pa pb q sa (tkS q s e) w')) := fun pa pb sa s e he hi V h => (mtake_any V pb q s e h.b hi hq he).mono (fun r w' ⟨e1, e2, e3⟩ => ⟨e1, h.onB e2 e3⟩)
  have HLA : Hid (∀ pa pb s, s.In q → ∀ V, QO w pa pb q s s V → Calls Try.prog 14 #[.pointer (some ⟨pa, 0, none⟩)] V fun r w' => r = .returned (.agg (q.left s).C) ∧ Hid (QO w pa pb q s s w')) := fun pa pb s hi V h => (mleft_any V pa q s h.a hi hq).mono (fun r w' ⟨e1, e2, e3⟩ => ⟨e1, h.onA e2 e3⟩)
  have HLB : Hid (∀ pa pb s, s.In q → ∀ V, QO w pa pb q s s V → Calls Try.prog 14 #[.pointer (some ⟨pb, 0, none⟩)] V fun r w' => r = .returned (.agg (q.left s).C) ∧ Hid (QO w pa pb q s s w')) := fun pa pb s hi V h => (mleft_any V pb q s h.b hi hq).mono (fun r w' ⟨e1, e2, e3⟩ => ⟨e1, h.onB e2 e3⟩)
  have HUA : Hid (∀ pa pb s, ∀ V, QO w pa pb q s s V → Calls Try.prog 15 #[.pointer (some ⟨pa, 0, none⟩)] V fun r w' => r = .returned (.agg s.used.C) ∧ Hid (QO w pa pb q s s w')) := fun pa pb s V h => (mused_any V pa q s h.a).mono (fun r w' ⟨e1, e2, e3⟩ => ⟨e1, h.onA e2 e3⟩)
  have HUB : Hid (∀ pa pb s, ∀ V, QO w pa pb q s s V → Calls Try.prog 15 #[.pointer (some ⟨pb, 0, none⟩)] V fun r w' => r = .returned (.agg s.used.C) ∧ Hid (QO w pa pb q s s w')) := fun pa pb s V h => (mused_any V pb q s h.b).mono (fun r w' ⟨e1, e2, e3⟩ => ⟨e1, h.onB e2 e3⟩)
  have HL : Hid (SlR RE (fun k => w.heap.size ≤ k) (.slice a l.length c) l w) := hl
  have HOK : Hid (∀ x ∈ l, x.Ok) := hok
  have HO0 : Hid (O1 l q 0) := O1.start hc
  obtain ⟨hc0, hc1⟩ : l.length ≤ c ∧ c < 9223372036854775808 := by
    obtain ⟨a', c', e, h1, h2, _⟩ := hl.form
    injection e with _ _ e3
    subst e3
    exact ⟨h1, h2⟩
  clear hq hc hl hok
  obtain ⟨N, hN⟩ : ∃ N, N = l.length := ⟨_, rfl⟩
  have HN : Hid (N = l.length) := hN
  rw [← hN] at HL hc0 hlen ⊢
  clear hN
  unfold Qt.C at HV H1 H2 ⊢
  by_cases hN0 : N = 0
  · subst hN0
    go_enter Try.func6, Try.ntmps6
    go_wp2_with (first
      | (go_at_call 10; with_reducible refine (HV.out _ (newHeapQ _ _) ((Fr.refl _ _).alloc _)).mono ?_; rintro e w1 ⟨rfl, K1, r1, r2, r3⟩)
      | (go_at_call 11; with_reducible refine (H1.out _ K1.out).mono ?_; rintro e w2 ⟨pa, rfl, K2, t1, t2, t3⟩)
      | (go_at_call 11; with_reducible refine (H2.out pa _ K2.out).mono ?_; rintro e w3 ⟨pb, rfl, K3⟩))
    go_ret
    exact ⟨rfl, K3.out.n⟩
  have hd0 : ((N : Int) == 0) = false := by rw [beq_eq_false_iff_ne]; omega
  go_enter Try.func6, Try.ntmps6
  go_wp2_with (first
    | (go_at_call 10; with_reducible refine (HV.out _ (newHeapQ _ _) ((Fr.refl _ _).alloc _)).mono ?_; rintro e w1 ⟨rfl, K1, r1, r2, r3⟩)
    | (go_at_call 11; with_reducible refine (H1.out _ K1.out).mono ?_; rintro e w2 ⟨pa, rfl, K2, t1, t2, t3⟩)
    | (go_at_call 11; with_reducible refine (H2.out pa _ K2.out).mono ?_; rintro e w3 ⟨pb, rfl, K3⟩))
  clear HV H1 H2 K1 K2 r1 r2 r3 t1 t2 t3
  go_loopg [11] N (fun kx i wr => ∃ (I : Nat), I ≤ N ∧ N - I ≤ kx ∧ i = .int .i64 I ∧ Hid (QO w pa pb q ⟨sm (nbL l) I, I⟩ ⟨0, 0⟩ wr ∧ O1 l q I))
  case atStart => exact ⟨0, by omega, by omega, rfl, K3.out, HO0.out⟩
  case round =>
    obtain ⟨I, hI, hkx, rfl, K⟩ := hrel
    clear K3 HO0
    by_cases hlt : I < N
    · have hlt' : I < l.length := by have := HN.out; omega
      obtain ⟨g, o, rfl, y0, y1, y2, y3, y4, y5, y6, y7, y8, y9, y10, y11⟩ := en_at (HL.out.nw K.out.1.n) I hlt'
      have hA : Hid (∀ V, QO w pa pb q ⟨sm (nbL l) I, I⟩ ⟨0, 0⟩ V → _) := fun V h => HA.out pa pb _ _ l[I] (HOK.out _ (List.getElem_mem hlt')) K.out.2.inq V h
      have HX : Hid (tkE q ⟨sm (nbL l) I, I⟩ l[I] = 0 → O1 l q (I + 1) ∧ tkS q ⟨sm (nbL l) I, I⟩ l[I] = ⟨sm (nbL l) (I + 1), ((I + 1 : Nat) : Int)⟩) := fun ht => K.out.2.next hlt' ht
      clear HA HBt HLA HLB HUA HUB HL HOK
      generalize tkE q ⟨sm (nbL l) I, I⟩ l[I] = t at *
      generalize tkS q ⟨sm (nbL l) I, I⟩ l[I] = sT at *
      generalize l[I] = x at *
      clear hlt'
      unfold En.C at hA
      by_cases ht : t = 0
      · have hd : ((t : Int) != 0) = false := by rw [ht]; rfl
        go_wp2_with (go_at_call 13; with_reducible refine (hA.out _ K.out.1).mono ?_; rintro e w4 ⟨rfl, K4⟩)
        go_roundg (N - (I + 1))
        case measure => omega
        case rel => exact ⟨I + 1, by omega, by omega, by first | rfl | (congr 1), by rw [← (HX.out ht).2]; exact K4.out, (HX.out ht).1⟩
      · have hd : ((t : Int) != 0) = true := by simp; omega
        go_wp2_with (go_at_call 13; with_reducible refine (hA.out _ K.out.1).mono ?_; rintro e w4 ⟨rfl, K4⟩)
        go_ret
        exact ⟨rfl, K4.out.n⟩
    · obtain rfl : I = N := by omega
      have HST : Hid (QO w pa pb q ⟨sm (nbL l) l.length, l.length⟩ ⟨0, 0⟩ wr ∧ O1 l q l.length) := by have h := HN.out; subst h; exact K.out
      clear K HA
      by_cases hneg : x2 < 0
      · obtain ⟨T, hT⟩ : ∃ T : Nat, -(x2 + 1) = (T : Int) := ⟨(-(x2 + 1)).toNat, by omega⟩
        have hT1 : (T : Int) ≤ 9223372036854775807 := by omega
        go_wp2_with fail
        go_loopg [12] I (fun kx i wr => ∃ (k : Nat), k ≤ I ∧ k ≤ kx ∧ i = .int .i64 ((k : Int) - 1) ∧ Hid (QO w pa pb q ⟨sm (nbL l) l.length, l.length⟩ ⟨sm (fun i => nbL l ((i + T) % l.length)) l.length - sm (fun i => nbL l ((i + T) % l.length)) k, (l.length : Int) - k⟩ wr))
        case atStart => exact ⟨I, by omega, by omega, rfl, by have h := HN.out; subst h; have e := HST.out.1; rw [show sm (fun i => nbL l ((i + T) % l.length)) l.length - sm (fun i => nbL l ((i + T) % l.length)) l.length = 0 from Int.sub_self _, show ((l.length : Int) - (l.length : Int)) = 0 from Int.sub_self _]; exact e⟩
        case round =>
          obtain ⟨k, hk, hkx, rfl, K2⟩ := hrel
          have HST2 : Hid (O1 l q l.length) := HST.out.2
          clear HST
          by_cases hk0 : 0 < k
          · have hidx := idx_eq k T I hk0 hk hlen
            obtain ⟨J, hJ⟩ : ∃ J, J = (k - 1 + T) % I := ⟨_, rfl⟩
            have hJI : J < I := by rw [hJ]; exact Nat.mod_lt _ (by omega)
            have hJI2 : (J : Int) < (I : Int) := by omega
            have hJ' : J < l.length := by have := HN.out; omega
            rw [← hJ] at hidx
            obtain ⟨g, o, rfl, y0, y1, y2, y3, y4, y5, y6, y7, y8, y9, y10, y11⟩ := en_at (HL.out.nw K2.out.n) J hJ'
            have HBt2 : Hid (Calls Try.prog 13 #[.pointer (some ⟨pb, 0, none⟩), .agg (l[J]).C] wr fun r w' => r = .returned (.int .i64 0) ∧ Hid (QO w pa pb q ⟨sm (nbL l) l.length, l.length⟩ ⟨sm (fun i => nbL l ((i + T) % l.length)) l.length - sm (fun i => nbL l ((i + T) % l.length)) (k - 1), (l.length : Int) - (k - 1 : Nat)⟩ w')) := by
              show Calls _ _ _ _ _
              have hn := HN.out
              have hJn : J = (k - 1 + T) % l.length := by rw [← hn]; exact hJ
              obtain ⟨e1, e2, e3⟩ := o2_next HST2.out T (k - 1) (by omega) (by rw [← hJn]; exact hJ')
              have hkk : k - 1 + 1 = k := by omega
              simp only [hkk] at e1 e2 e3
              simp only [← hJn] at e2 e3
              refine (HBt.out pa pb _ _ l[J] (HOK.out _ (List.getElem_mem hJ')) e1 _ K2.out).mono ?_
              rintro r w' ⟨f1, f2⟩
              rw [e2] at f1
              rw [e3] at f2
              exact ⟨f1, f2⟩
            clear HBt HLA HLB HUA HUB HL HOK hJ HST2 K2
            generalize l[J] = x at *
            clear hJ'
            unfold En.C at HBt2
            have hk1 : (((k - 1 : Nat) : Int)) = (k : Int) - 1 := by omega
            go_wp2_with (go_at_call 13; with_reducible refine HBt2.out.mono ?_; rintro e w4 ⟨rfl, K4⟩)
            go_roundg (k - 1)
            case measure => omega
            case rel => exact ⟨k - 1, by omega, by omega, by rw [hk1], K4⟩
          · obtain rfl : k = 0 := by omega
            have K3 : Hid (QO w pa pb q ⟨sm (nbL l) l.length, l.length⟩ ⟨sm (nbL l) l.length, l.length⟩ wr) := by
              have h := K2.out
              have hn := HN.out
              rw [sm_turn (nbL l) l.length T (by omega)] at h
              have e0 : sm (fun i => nbL l ((i + T) % l.length)) 0 = 0 := rfl
              rw [e0, Int.sub_zero] at h
              have e1 : (l.length : Int) - ((0 : Nat) : Int) = l.length := by omega
              rw [e1] at h
              exact h
            have hLA : Hid (∀ V, QO w pa pb q ⟨sm (nbL l) l.length, l.length⟩ ⟨sm (nbL l) l.length, l.length⟩ V → _) := fun V h => HLA.out pa pb _ HST2.out.inq V h
            have hLB : Hid (∀ V, QO w pa pb q ⟨sm (nbL l) l.length, l.length⟩ ⟨sm (nbL l) l.length, l.length⟩ V → _) := fun V h => HLB.out pa pb _ HST2.out.inq V h
            have hUA : Hid (∀ V, QO w pa pb q ⟨sm (nbL l) l.length, l.length⟩ ⟨sm (nbL l) l.length, l.length⟩ V → _) := fun V h => HUA.out pa pb _ V h
            have hUB : Hid (∀ V, QO w pa pb q ⟨sm (nbL l) l.length, l.length⟩ ⟨sm (nbL l) l.length, l.length⟩ V → _) := fun V h => HUB.out pa pb _ V h
            clear HBt HLA HLB HUA HUB HL HOK K2 HST2
            generalize (⟨sm (nbL l) l.length, l.length⟩ : St) = sX at *
            unfold Qt.left Qt.C at hLA hLB
            unfold St.used Qt.C at hUA hUB
            generalize q.B - sX.b = l1 at *
            generalize q.E - sX.n = l2 at *
            generalize hl3 : sX.b = l3 at *
            clear hl3
            generalize hl4 : sX.n = l4 at *
            clear hl4
            go_wp2_with (first
              | (go_at_call 14; with_reducible refine (hLA.out _ K3.out).mono ?_; rintro e w4 ⟨rfl, K4⟩)
              | (go_at_call 14; with_reducible refine (hLB.out _ K4.out).mono ?_; rintro e w5 ⟨rfl, K5⟩)
              | (go_at_call 15; with_reducible refine (hUA.out _ K5.out).mono ?_; rintro e w6 ⟨rfl, K6⟩)
              | (go_at_call 15; with_reducible refine (hUB.out _ K6.out).mono ?_; rintro e w7 ⟨rfl, K7⟩))
            go_ret
            exact ⟨by first | rfl | simp, K7.out.n⟩
      · obtain ⟨T, rfl⟩ : ∃ T : Nat, x2 = (T : Int) := ⟨x2.toNat, by omega⟩
        have hT1 : (T : Int) ≤ 9223372036854775807 := hx1
        go_wp2_with fail
        go_loopg [12] I (fun kx i wr => ∃ (k : Nat), k ≤ I ∧ k ≤ kx ∧ i = .int .i64 ((k : Int) - 1) ∧ Hid (QO w pa pb q ⟨sm (nbL l) l.length, l.length⟩ ⟨sm (fun i => nbL l ((i + T) % l.length)) l.length - sm (fun i => nbL l ((i + T) % l.length)) k, (l.length : Int) - k⟩ wr))
        case atStart => exact ⟨I, by omega, by omega, rfl, by have h := HN.out; subst h; have e := HST.out.1; rw [show sm (fun i => nbL l ((i + T) % l.length)) l.length - sm (fun i => nbL l ((i + T) % l.length)) l.length = 0 from Int.sub_self _, show ((l.length : Int) - (l.length : Int)) = 0 from Int.sub_self _]; exact e⟩
        case round =>
          obtain ⟨k, hk, hkx, rfl, K2⟩ := hrel
          have HST2 : Hid (O1 l q l.length) := HST.out.2
          clear HST
          by_cases hk0 : 0 < k
          · have hidx := idx_eq k T I hk0 hk hlen
            obtain ⟨J, hJ⟩ : ∃ J, J = (k - 1 + T) % I := ⟨_, rfl⟩
            have hJI : J < I := by rw [hJ]; exact Nat.mod_lt _ (by omega)
            have hJI2 : (J : Int) < (I : Int) := by omega
            have hJ' : J < l.length := by have := HN.out; omega
            rw [← hJ] at hidx
            obtain ⟨g, o, rfl, y0, y1, y2, y3, y4, y5, y6, y7, y8, y9, y10, y11⟩ := en_at (HL.out.nw K2.out.n) J hJ'
            have HBt2 : Hid (Calls Try.prog 13 #[.pointer (some ⟨pb, 0, none⟩), .agg (l[J]).C] wr fun r w' => r = .returned (.int .i64 0) ∧ Hid (QO w pa pb q ⟨sm (nbL l) l.length, l.length⟩ ⟨sm (fun i => nbL l ((i + T) % l.length)) l.length - sm (fun i => nbL l ((i + T) % l.length)) (k - 1), (l.length : Int) - (k - 1 : Nat)⟩ w')) := by
              show Calls _ _ _ _ _
              have hn := HN.out
              have hJn : J = (k - 1 + T) % l.length := by rw [← hn]; exact hJ
              obtain ⟨e1, e2, e3⟩ := o2_next HST2.out T (k - 1) (by omega) (by rw [← hJn]; exact hJ')
              have hkk : k - 1 + 1 = k := by omega
              simp only [hkk] at e1 e2 e3
              simp only [← hJn] at e2 e3
              refine (HBt.out pa pb _ _ l[J] (HOK.out _ (List.getElem_mem hJ')) e1 _ K2.out).mono ?_
              rintro r w' ⟨f1, f2⟩
              rw [e2] at f1
              rw [e3] at f2
              exact ⟨f1, f2⟩
            clear HBt HLA HLB HUA HUB HL HOK hJ HST2 K2
            generalize l[J] = x at *
            clear hJ'
            unfold En.C at HBt2
            have hk1 : (((k - 1 : Nat) : Int)) = (k : Int) - 1 := by omega
            go_wp2_with (go_at_call 13; with_reducible refine HBt2.out.mono ?_; rintro e w4 ⟨rfl, K4⟩)
            go_roundg (k - 1)
            case measure => omega
            case rel => exact ⟨k - 1, by omega, by omega, by rw [hk1], K4⟩
          · obtain rfl : k = 0 := by omega
            have K3 : Hid (QO w pa pb q ⟨sm (nbL l) l.length, l.length⟩ ⟨sm (nbL l) l.length, l.length⟩ wr) := by
              have h := K2.out
              have hn := HN.out
              rw [sm_turn (nbL l) l.length T (by omega)] at h
              have e0 : sm (fun i => nbL l ((i + T) % l.length)) 0 = 0 := rfl
              rw [e0, Int.sub_zero] at h
              have e1 : (l.length : Int) - ((0 : Nat) : Int) = l.length := by omega
              rw [e1] at h
              exact h
            have hLA : Hid (∀ V, QO w pa pb q ⟨sm (nbL l) l.length, l.length⟩ ⟨sm (nbL l) l.length, l.length⟩ V → _) := fun V h => HLA.out pa pb _ HST2.out.inq V h
            have hLB : Hid (∀ V, QO w pa pb q ⟨sm (nbL l) l.length, l.length⟩ ⟨sm (nbL l) l.length, l.length⟩ V → _) := fun V h => HLB.out pa pb _ HST2.out.inq V h
            have hUA : Hid (∀ V, QO w pa pb q ⟨sm (nbL l) l.length, l.length⟩ ⟨sm (nbL l) l.length, l.length⟩ V → _) := fun V h => HUA.out pa pb _ V h
            have hUB : Hid (∀ V, QO w pa pb q ⟨sm (nbL l) l.length, l.length⟩ ⟨sm (nbL l) l.length, l.length⟩ V → _) := fun V h => HUB.out pa pb _ V h
            clear HBt HLA HLB HUA HUB HL HOK K2 HST2
            generalize (⟨sm (nbL l) l.length, l.length⟩ : St) = sX at *
            unfold Qt.left Qt.C at hLA hLB
            unfold St.used Qt.C at hUA hUB
            generalize q.B - sX.b = l1 at *
            generalize q.E - sX.n = l2 at *
            generalize hl3 : sX.b = l3 at *
            clear hl3
            generalize hl4 : sX.n = l4 at *
            clear hl4
            go_wp2_with (first
              | (go_at_call 14; with_reducible refine (hLA.out _ K3.out).mono ?_; rintro e w4 ⟨rfl, K4⟩)
              | (go_at_call 14; with_reducible refine (hLB.out _ K4.out).mono ?_; rintro e w5 ⟨rfl, K5⟩)
              | (go_at_call 15; with_reducible refine (hUA.out _ K5.out).mono ?_; rintro e w6 ⟨rfl, K6⟩)
              | (go_at_call 15; with_reducible refine (hUB.out _ K6.out).mono ?_; rintro e w7 ⟨rfl, K7⟩))
            go_ret
            exact ⟨by first | rfl | simp, K7.out.n⟩
theorem qord_any (w : World) (q : Qt) (hq : q.Ok) (a : Option Addr) (c : Nat) (l : List En) (hl : SlR RE (fun k => w.heap.size ≤ k) (.slice a l.length c) l w) (hok : ∀ x ∈ l, x.Ok) (hlen : l.length ≤ 1172812402961) (x2 : Int) (hx0 : -9223372036854775808 ≤ x2) (hx1 : x2 ≤ 9223372036854775807) :
    Calls Try.prog 6 #[.agg q.C, .slice a l.length c, .int .i64 x2] w fun e w' => e = .returned (.bool true) ∧ Nw w w' := by
  by_cases hc : q.can = true
  · exact qord_yes w q hq hc a c l hl hok hlen x2 hx0 hx1
  · exact qord_no w q (by simpa using hc) _ _
end Go.Proofs.Ytfjjgjkgicabjaa
