import Derived.Test.YtfjjgjkgicabjaaQuB
namespace Go.Proofs.Ytfjjgjkgicabjaa
open Go.RowKit Go.MuLone
set_option linter.unusedVariables false
set_option maxHeartbeats 4000000 in
set_option maxRecDepth 100000 in
theorem qman_no (w : World) (q : Qt) (hc : q.can = false) (v1 v2 : Value) :
    Calls Try.prog 4 #[.agg q.C, v1, v2] w fun e w' => e = .returned (.bool true) ∧ Nw w w' := by
  have HV : Hid (∀ V, V.heap[w.heap.size]? = some (.cells q.C 23) → Calls Try.prog 10 #[] V fun e w' => e = .returned (.bool true) ∧ Hid (Nw V w' ∧ w'.heap[w.heap.size]? = some (.cells q.C 23)) ∧ w'.cell? ⟨w.heap.size, 0, none⟩ = some (.int .i64 q.B) ∧ w'.cell? ⟨w.heap.size, 1, none⟩ = some (.int .i64 q.E) ∧ w'.cell? ⟨w.heap.size, 2, none⟩ = some (.int .i64 q.D)) := fun V hV => (lives_any V).mono (fun e w' ⟨e1, e3⟩ => ⟨e1, ⟨e3, e3.heap hV⟩, (quota_row hV e3).2⟩)
  have H1 : Hid (∀ V, V.heap[w.heap.size]? = some (.cells q.C 23) → Calls Try.prog 11 #[.agg q.C] V fun e w' => e = .returned (.tuple #[.pointer none, .int .i64 1]) ∧ Hid (Nw V w' ∧ w'.heap[w.heap.size]? = some (.cells q.C 23)) ∧ w'.cell? ⟨w.heap.size, 0, none⟩ = some (.int .i64 q.B) ∧ w'.cell? ⟨w.heap.size, 1, none⟩ = some (.int .i64 q.E) ∧ w'.cell? ⟨w.heap.size, 2, none⟩ = some (.int .i64 q.D)) := fun V hV => (new_no V q hc).mono (fun e w' ⟨e1, e3⟩ => ⟨e1, ⟨e3, e3.heap hV⟩, (quota_row hV e3).2⟩)
  have H4 : Hid (∀ V, Calls Try.prog 12 #[.agg q.C] V fun e w' => e = .returned (.bool false) ∧ Hid (Nw V w')) := fun V => by have := rcan_any V q; rw [hc] at this; exact this
  clear hc
  unfold Qt.C at *
  go_enter Try.func4, Try.ntmps4
  go_wp2_with (first
    | (go_at_call 10; with_reducible refine (HV.out _ (newHeapQ _ _)).mono ?_; rintro e w1 ⟨rfl, K1, r1, r2, r3⟩)
    | (go_at_call 11; with_reducible refine (H1.out _ K1.out.2).mono ?_; rintro e w2 ⟨rfl, K2, t1, t2, t3⟩)
    | (go_at_call 12; with_reducible refine (H4.out _).mono ?_; rintro e w4 ⟨rfl, K4⟩))
  go_ret
  exact ⟨rfl, ((((Fr.refl _ _).alloc _).trans K1.out.1).trans K2.out.1).trans K4.out⟩
theorem idx_odd {T N I : Nat} (h : T % 2 = 1) (hI : I < N) (hN : N ≤ 1172812402961) : wrap64 ((N : Int) - 1 - ((I : Int) + (T : Int)) % (N : Int)) = ((pOf T N I : Nat) : Int) := by
  unfold pOf; rw [if_pos h]
  have h1 : ((I : Int) + (T : Int)) % (N : Int) = (((I + T) % N : Nat) : Int) := by push_cast; rfl
  have h2 := Nat.mod_lt (I + T) (show 0 < N by omega)
  rw [h1]
  generalize (I + T) % N = z at *
  rw [IntWalk.wrap64_in _ (by omega)]
  omega
theorem idx_even {T N I : Nat} (h : ¬ T % 2 = 1) : ((I : Int) + (T : Int)) % (N : Int) = ((pOf T N I : Nat) : Int) := by
  unfold pOf; rw [if_neg h]
  push_cast; rfl
set_option maxHeartbeats 16000000 in
set_option maxRecDepth 100000 in
theorem qman_yes (w : World) (q : Qt) (hq : q.Ok) (hc : q.can = true) (a : Option Addr) (c : Nat) (l : List En) (hl : SlR RE (fun k => w.heap.size ≤ k) (.slice a l.length c) l w) (hok : ∀ x ∈ l, x.Ok) (hlen : l.length ≤ 1172812402961) (T : Nat) (hT : T < 65536) :
    Calls Try.prog 4 #[.agg q.C, .slice a l.length c, .int .u16 (T : Int)] w fun e w' => e = .returned (.bool true) ∧ Nw w w' := by
  have HV : Hid (∀ V, V.heap[w.heap.size]? = some (.cells q.C 23) → Nw w V → Calls Try.prog 10 #[] V fun e w' => e = .returned (.bool true) ∧ Hid (Nw w w' ∧ w'.heap[w.heap.size]? = some (.cells q.C 23)) ∧ w'.cell? ⟨w.heap.size, 0, none⟩ = some (.int .i64 q.B) ∧ w'.cell? ⟨w.heap.size, 1, none⟩ = some (.int .i64 q.E) ∧ w'.cell? ⟨w.heap.size, 2, none⟩ = some (.int .i64 q.D)) := fun V hV hn => (lives_any V).mono (fun e w' ⟨e1, e3⟩ => ⟨e1, ⟨hn.trans e3, e3.heap hV⟩, (quota_row hV e3).2⟩)
  have H1 : Hid (∀ V, Nw w V ∧ V.heap[w.heap.size]? = some (.cells q.C 23) → Calls Try.prog 11 #[.agg q.C] V fun e w' => ∃ pm W0, e = .returned (.tuple #[.pointer (some ⟨pm, 0, none⟩), .int .i64 0]) ∧ (Instr.makeSlice 49 (.int .i64 (l.length : Int)) (.int .i64 (l.length : Int))).run Try.prog w' = .ok (.slice (some ⟨w'.heap.size, 0, none⟩) l.length l.length) W0 ∧ Hid (QM w pm q ⟨0, 0⟩ w'.heap.size (List.replicate l.length 0) W0)) := fun V hV => by
    refine (new_yes V q hc).mono ?_
    rintro e w' ⟨pm, e1, e2, e3, e4⟩
    obtain ⟨W0, m1, m2, m3⟩ := out_made w' l.length hlen
    have l1 := (Array.getElem?_eq_some_iff.1 hV.2).1
    have l2 := e3.lt
    have l3 := e4.size
    exact ⟨pm, W0, e1, m1, ⟨m3.heap e3, m2, (hV.1.trans e4).trans m3, m3.heap (e4.heap hV.2), by omega, by omega, by omega⟩⟩
  have HT : Hid (∀ pm go s os (e : En), e.Ok → s.In q → ∀ V, QM w pm q s go os V → Calls Try.prog 13 #[.pointer (some ⟨pm, 0, none⟩), .agg e.C] V fun r w' => r = .returned (.int .i64 ((tkE q s e : Nat) : Int)) ∧ Hid (QM w pm q (tkS q s e) go os w')) := fun pm go s os e he hi V h => (mtake_any V pm q s e h.m hi hq he).mono (fun r w' ⟨e1, e2, e3⟩ => ⟨e1, h.onM e2 e3⟩)
  have HLf : Hid (∀ pm go s os, s.In q → ∀ V, QM w pm q s go os V → Calls Try.prog 14 #[.pointer (some ⟨pm, 0, none⟩)] V fun r w' => r = .returned (.agg #[.int .i64 (q.B - s.b), .int .i64 (q.E - s.n), .int .i64 q.D]) ∧ Hid (QM w pm q s go os w')) := fun pm go s os hi V h => (mleft_any V pm q s h.m hi hq).mono (fun r w' ⟨e1, e2, e3⟩ => ⟨e1, h.onM e2 e3⟩)
  have HU : Hid (∀ pm go s os G X, G ≠ pm → ∀ V, QM w pm q s go os V ∧ V.heap[G]? = some (.cells X 23) → Calls Try.prog 15 #[.pointer (some ⟨pm, 0, none⟩)] V fun r w' => r = .returned (.agg #[.int .i64 s.b, .int .i64 s.n, .int .i64 0]) ∧ Hid (QM w pm q s go os w' ∧ w'.heap[G]? = some (.cells X 23))) := fun pm go s os G X hG V h => (mused_any V pm q s h.1.m).mono (fun r w' ⟨e1, e2, e3⟩ => ⟨e1, h.1.onM e2 e3, (e3.block G (Array.getElem?_eq_some_iff.1 h.2).1 hG).trans h.2⟩)
  have HR : Hid (∀ pm go s os V, QM w pm q s go os V → Calls Try.prog 16 #[.agg q.C] V fun e w' => ∃ d, e = .returned (.tuple #[.pointer (some ⟨d, 0, none⟩), .int .i64 0]) ∧ Hid (QN w pm q s go os d ⟨0, 0⟩ w')) := fun pm go s os V h => (rnew_yes V q hc).mono (fun e w' ⟨d, e1, e2, e3, e4⟩ => ⟨d, e1, h.nw e4, e3, by have := (Array.getElem?_eq_some_iff.1 h.bx).1; omega, by have := h.m.lt; omega, by have := h.o.lt; omega⟩)
  have HRT : Hid (∀ pm go s os d sr (e : En), e.Ok → sr.In q → ∀ V, QN w pm q s go os d sr V → Calls Try.prog 17 #[.pointer (some ⟨d, 0, none⟩), .agg e.C] V fun r w' => r = .returned (.int .i64 ((tkE q sr e : Nat) : Int)) ∧ Hid (QN w pm q s go os d (tkS q sr e) w')) := fun pm go s os d sr e he hi V h => (rtake_any V d q sr e h.r hi hq he).mono (fun r w' ⟨e1, e2, e3⟩ => ⟨e1, h.on e2 e3⟩)
  have HL : Hid (SlR RE (fun k => w.heap.size ≤ k) (.slice a l.length c) l w) := hl
  have HOK : Hid (∀ x ∈ l, x.Ok) := hok
  have HM0 : Hid (M1 q l T 0 ⟨0, 0⟩ (List.replicate l.length 0)) := M1.start hc
  have HI0 : Hid (St.In q ⟨0, 0⟩) := In0 hc
  have HQ : Hid q.Ok := hq
  obtain ⟨hc0, hc1⟩ : l.length ≤ c ∧ c < 9223372036854775808 := by
    obtain ⟨a', c', e, h1, h2, _⟩ := hl.form
    injection e with _ _ e3
    subst e3
    exact ⟨h1, h2⟩
  clear hq hc hl hok
  obtain ⟨N, hN⟩ : ∃ N, N = l.length := ⟨_, rfl⟩
  have HN : Hid (N = l.length) := hN
  rw [← hN] at HL hc0 hlen H1 HM0 ⊢
  clear hN
  unfold Qt.C at HV H1 HR ⊢
  go_enter Try.func4, Try.ntmps4
  go_wp2_with (first
    | (go_at_call 10; with_reducible refine (HV.out _ (newHeapQ _ _) ((Fr.refl _ _).alloc _)).mono ?_; rintro e w1 ⟨rfl, K1, r1, r2, r3⟩)
    | (go_at_call 11; with_reducible refine (H1.out _ K1.out).mono ?_; rintro e w2 ⟨pm, W0, rfl, hmk, K2⟩))
  clear HV H1 K1 r1 r2 r3 hmk
  generalize w2.heap.size = go at *
  go_loopg [10] N (fun kx i wr => ∃ (I : Nat) (s : St) (os : List Nat), I ≤ N ∧ N - I ≤ kx ∧ i = .int .i64 I ∧ Hid (QM w pm q s go os wr ∧ M1 q l T I s os))
  case atStart => exact ⟨0, _, _, by omega, by omega, rfl, K2.out, HM0.out⟩
  case round =>
    obtain ⟨I, s, os, hI, hkx, rfl, K⟩ := hrel
    clear K2 HM0
    by_cases hlt : I < N
    · by_cases hodd : T % 2 = 1
      · have hdo : (((T : Int) % 2) == 1) = true := by rw [beq_iff_eq]; omega
        have hidx : wrap64 ((N : Int) - 1 - ((I : Int) + (T : Int)) % (N : Int)) = ((pOf T N I : Nat) : Int) := idx_odd hodd hlt hlen
        obtain ⟨J, hJ⟩ : ∃ J, J = pOf T N I := ⟨_, rfl⟩
        rw [← hJ] at hidx
        have hJI : J < N := by rw [hJ]; exact pOf_lt (by omega)
        have hJI2 : (J : Int) < (N : Int) := by omega
        have hJl : J < l.length := by have := HN.out; omega
        obtain ⟨g, o, rfl, y0, y1, y2, y3, y4, y5, y6, y7, y8, y9, y10, y11⟩ := en_at (HL.out.nw K.out.1.n) J hJl
        have HX : Hid (M1 q l T (I + 1) (tkS q s l[J]) (os.set J (tkE q s l[J]))) := K.out.2.next (by have := HN.out; omega) (by rw [← HN.out]; exact hJ) hJl
        have hTk : Hid (Calls Try.prog 13 #[.pointer (some ⟨pm, 0, none⟩), .agg (l[J]).C] wr fun r w' => r = .returned (.int .i64 ((tkE q s l[J] : Nat) : Int)) ∧ Hid (QM w pm q (tkS q s l[J]) go os w') ∧ w'.cell? ⟨go, J, none⟩ = some (.int .i64 ((os[J]'(by rw [K.out.2.len]; exact hJl) : Nat) : Int)) ∧ w'.frozen? ⟨go, J, none⟩ = false) := by
          show Calls _ _ _ _ _
          refine (HT.out pm go s os l[J] (HOK.out _ (List.getElem_mem hJl)) K.out.2.inq wr K.out.1).mono ?_
          rintro r w' ⟨e1, e2⟩
          exact ⟨e1, e2, (e2.out.o.at J _).1, (e2.out.o.at J (by rw [K.out.2.len]; exact hJl)).2⟩
        clear HT HLf HU HR HRT HL HOK hJ
        generalize tkE q s l[J] = t at *
        generalize tkS q s l[J] = sT at *
        generalize l[J] = x at *
        generalize (os[J]'(by rw [K.out.2.len]; exact hJl) : Nat) = oj at *
        clear hJl
        unfold En.C at hTk
        go_wp2_with (go_at_call 13; with_reducible refine hTk.out.mono ?_; rintro e w5 ⟨rfl, K5, c5, f5⟩)
        go_roundg (N - (I + 1))
        case measure => omega
        case rel => exact ⟨I + 1, _, _, by omega, by omega, by first | rfl | (congr 1), K5.out.set J t, HX.out⟩
      · have hdo : (((T : Int) % 2) == 1) = false := by rw [beq_eq_false_iff_ne]; omega
        have hidx : ((I : Int) + (T : Int)) % (N : Int) = ((pOf T N I : Nat) : Int) := idx_even hodd
        obtain ⟨J, hJ⟩ : ∃ J, J = pOf T N I := ⟨_, rfl⟩
        rw [← hJ] at hidx
        have hJI : J < N := by rw [hJ]; exact pOf_lt (by omega)
        have hJI2 : (J : Int) < (N : Int) := by omega
        have hJl : J < l.length := by have := HN.out; omega
        obtain ⟨g, o, rfl, y0, y1, y2, y3, y4, y5, y6, y7, y8, y9, y10, y11⟩ := en_at (HL.out.nw K.out.1.n) J hJl
        have HX : Hid (M1 q l T (I + 1) (tkS q s l[J]) (os.set J (tkE q s l[J]))) := K.out.2.next (by have := HN.out; omega) (by rw [← HN.out]; exact hJ) hJl
        have hTk : Hid (Calls Try.prog 13 #[.pointer (some ⟨pm, 0, none⟩), .agg (l[J]).C] wr fun r w' => r = .returned (.int .i64 ((tkE q s l[J] : Nat) : Int)) ∧ Hid (QM w pm q (tkS q s l[J]) go os w') ∧ w'.cell? ⟨go, J, none⟩ = some (.int .i64 ((os[J]'(by rw [K.out.2.len]; exact hJl) : Nat) : Int)) ∧ w'.frozen? ⟨go, J, none⟩ = false) := by
          show Calls _ _ _ _ _
          refine (HT.out pm go s os l[J] (HOK.out _ (List.getElem_mem hJl)) K.out.2.inq wr K.out.1).mono ?_
          rintro r w' ⟨e1, e2⟩
          exact ⟨e1, e2, (e2.out.o.at J _).1, (e2.out.o.at J (by rw [K.out.2.len]; exact hJl)).2⟩
        clear HT HLf HU HR HRT HL HOK hJ
        generalize tkE q s l[J] = t at *
        generalize tkS q s l[J] = sT at *
        generalize l[J] = x at *
        generalize (os[J]'(by rw [K.out.2.len]; exact hJl) : Nat) = oj at *
        clear hJl
        unfold En.C at hTk
        go_wp2_with (go_at_call 13; with_reducible refine hTk.out.mono ?_; rintro e w5 ⟨rfl, K5, c5, f5⟩)
        go_roundg (N - (I + 1))
        case measure => omega
        case rel => exact ⟨I + 1, _, _, by omega, by omega, by first | rfl | (congr 1), K5.out.set J t, HX.out⟩
    · obtain rfl : I = N := by omega
      have HST : Hid (QM w pm q s go os wr ∧ M2 q l s os) := ⟨K.out.1, by have h := HN.out; subst h; exact K.out.2.done⟩
      clear K HT
      obtain ⟨i1, i2, i3, i4⟩ := HST.out.2.inq
      obtain ⟨q1, q2, q3, q4, q5, q6⟩ := HQ.out
      go_wp2_with fail
      go_loopg [12, 13, 14] I (fun kx v12 v13 v14 wx => ∃ (J : Nat) (eN bN : Int), J ≤ I ∧ I - J ≤ kx ∧ v12 = .int .i64 eN ∧ v13 = .int .i64 bN ∧ v14 = .int .i64 J ∧ Hid (QM w pm q s go os wx ∧ eN = sm (vn os) J ∧ bN = sm (vb l os) J))
      case atStart => exact ⟨0, 0, 0, by omega, by omega, rfl, rfl, rfl, HST.out.1, rfl, rfl⟩
      case round =>
        obtain ⟨J, eN, bN, hJ, hkx2, rfl, rfl, rfl, K2⟩ := hrel
        by_cases hltJ : J < I
        · have hJl : J < l.length := by have := HN.out; omega
          have hJo : J < os.length := by rw [HST.out.2.len]; exact hJl
          have hJ2 : (J : Int) < (I : Int) := by omega
          obtain ⟨g, o, rfl, y0, y1, y2, y3, y4, y5, y6, y7, y8, y9, y10, y11⟩ := en_at (HL.out.nw K2.out.1.n) J hJl
          obtain ⟨cJ, _⟩ := K2.out.1.o.at J hJo
          obtain ⟨bx0, bx1, bx2⟩ := K2.out.1.box
          obtain ⟨f1, f2, f3, f4⟩ := HST.out.2.few J (by have := HN.out; omega)
          rw [← K2.out.2.1] at f1 f2
          rw [← K2.out.2.2] at f3 f4
          have HSK : Hid (os[J] ≠ 0 → eN = sm (vn os) (J + 1) ∧ bN = sm (vb l os) (J + 1)) := fun h0 => by
            have := HST.out.2.skip J (by rw [List.getElem?_eq_getElem hJo]; simpa using h0)
            rw [this.1, this.2]; exact K2.out.2
          have HTK : Hid (os[J] = 0 → eN + 1 = sm (vn os) (J + 1) ∧ bN + (l[J]).nb = sm (vb l os) (J + 1) ∧ 0 ≤ (l[J]).nb ∧ bN + (l[J]).nb ≤ q.B) := fun h0 => by
            have := HST.out.2.take J hJl (by rw [List.getElem?_eq_getElem hJo, h0])
            rw [this.1, this.2.1, K2.out.2.1, K2.out.2.2]; exact ⟨rfl, rfl, this.2.2.1, this.2.2.2.1⟩
          have HQK : Hid (QM w pm q s go os wr) := K2.out.1
          have HNB : Hid (((l[J]).kind = 2 → (l[J]).nb = (l[J]).size) ∧ (¬ (l[J]).kind = 2 → (l[J]).nb = 0)) := ⟨fun h => by unfold En.nb; rw [if_pos h], fun h => by unfold En.nb; rw [if_neg h]⟩
          clear HLf HU HR HRT HL HOK HST HI0 K2
          generalize l[J] = x at *
          generalize os[J] = oj at *
          clear hJl hJo y0 y2 y3 y4 y5 y6 y7 y8 y9 y11 bx1 bx2
          by_cases hoj : oj = 0
          · have hdj : ((oj : Int) != 0) = false := by rw [hoj]; rfl
            obtain ⟨t1, t2, t3, t4⟩ := HTK.out hoj
            have HT12 : Hid (eN + 1 = sm (vn os) (J + 1) ∧ bN + x.nb = sm (vb l os) (J + 1)) := ⟨t1, t2⟩
            clear t1 t2 HSK HTK hoj
            by_cases hk : x.kind = 2
            · have hdk : (x.kind == 2) = true := by rw [hk]; rfl
              have hnb := HNB.out.1 hk
              rw [hnb] at t3 t4 HT12
              have hs1 : decide (x.size < 0) = false := decide_eq_false (by omega)
              have hs2 : decide (q.B - bN < x.size) = false := decide_eq_false (by omega)
              clear hk HNB hnb
              go_wp2_with fail
              go_quiet (fail)
              go_wp2_with fail
              go_roundg (I - (J + 1))
              case measure => omega
              case rel => exact ⟨J + 1, _, _, by omega, by omega, rfl, rfl, by first | rfl | (congr 1), HQK.out.nw ((Fr.refl _ _).drewN _), HT12.out.1, HT12.out.2⟩
            · have hdk : (x.kind == 2) = false := by rw [beq_eq_false_iff_ne]; exact hk
              have hnb := HNB.out.2 hk
              rw [hnb, Int.add_zero] at HT12
              clear hk HNB hnb t3 t4
              go_wp2_with fail
              go_roundg (I - (J + 1))
              case measure => omega
              case rel => exact ⟨J + 1, _, _, by omega, by omega, rfl, rfl, by first | rfl | (congr 1), HQK.out, HT12.out.1, HT12.out.2⟩
          · have hdj : ((oj : Int) != 0) = true := by simp; omega
            have HT12 := tHid (HSK.out hoj)
            clear HSK HTK hoj HNB
            go_wp2_with fail
            go_roundg (I - (J + 1))
            case measure => omega
            case rel => exact ⟨J + 1, _, _, by omega, by omega, rfl, rfl, by first | rfl | (congr 1), HQK.out, HT12.out.1, HT12.out.2⟩
        · obtain rfl : J = I := by omega
          have e1 : eN = s.n := by have h := HN.out; subst h; rw [K2.out.2.1, HST.out.2.n]
          have e2 : bN = s.b := by have h := HN.out; subst h; rw [K2.out.2.2, HST.out.2.b]
          subst e1 e2
          have HLf2 : Hid (Calls Try.prog 14 #[.pointer (some ⟨pm, 0, none⟩)] wr fun r w' => r = .returned (.agg #[.int .i64 (q.B - s.b), .int .i64 (q.E - s.n), .int .i64 q.D]) ∧ Hid (w'.heap.size ≠ pm ∧ QM w pm q s go os (w'.alloc (.cells #[.int .i64 (q.B - s.b), .int .i64 (q.E - s.n), .int .i64 q.D] 23)) ∧ (w'.alloc (.cells #[.int .i64 (q.B - s.b), .int .i64 (q.E - s.n), .int .i64 q.D] 23)).heap[w'.heap.size]? = some (.cells #[.int .i64 (q.B - s.b), .int .i64 (q.E - s.n), .int .i64 q.D] 23))) := by
            show Calls _ _ _ _ _
            refine (HLf.out pm go s os HST.out.2.inq wr K2.out.1).mono ?_
            rintro r w' ⟨f1, f2⟩
            exact ⟨f1, by have := f2.out.m.lt; omega, f2.out.nw ((Fr.refl _ _).alloc _), newHeapQ _ _⟩
          have HU2 : Hid (∀ G, G ≠ pm → ∀ V, QM w pm q s go os V ∧ V.heap[G]? = some (.cells #[.int .i64 (q.B - s.b), .int .i64 (q.E - s.n), .int .i64 q.D] 23) → Calls Try.prog 15 #[.pointer (some ⟨pm, 0, none⟩)] V fun r w' => r = .returned (.agg #[.int .i64 s.b, .int .i64 s.n, .int .i64 0]) ∧ Hid (QM w pm q s go os w') ∧ w'.cell? ⟨G, 0, none⟩ = some (.int .i64 (q.B - s.b)) ∧ w'.cell? ⟨G, 1, none⟩ = some (.int .i64 (q.E - s.n)) ∧ w'.cell? ⟨G, 2, none⟩ = some (.int .i64 q.D) ∧ w'.cell? ⟨w.heap.size, 0, none⟩ = some (.int .i64 q.B) ∧ w'.cell? ⟨w.heap.size, 1, none⟩ = some (.int .i64 q.E) ∧ w'.cell? ⟨w.heap.size, 2, none⟩ = some (.int .i64 q.D)) := fun G hG V hV => by
            refine (HU.out pm go s os G _ hG V hV).mono ?_
            rintro r w' ⟨f1, f2⟩
            obtain ⟨r0, r1, r2⟩ := row3 f2.out.2
            exact ⟨f1, f2.out.1, r0, r1, r2, f2.out.1.box⟩
          have HR1 : Hid (∀ V, QM w pm q s go os V → _) := fun V h => HR.out pm go s os V h
          have HM2 : Hid (M2 q l s os) := HST.out.2
          have hd1 : decide (q.E < s.n) = false := decide_eq_false (by omega)
          clear HLf HU HR HST K2
          go_wp2_with (first
            | (go_at_call 14; with_reducible refine HLf2.out.mono ?_; rintro e w6 ⟨rfl, K6⟩)
            | (go_at_call 15; with_reducible refine (HU2.out w6.heap.size K6.out.1 _ K6.out.2).mono ?_; rintro e w7 ⟨rfl, K7, r0, r1, r2, r3, r4, r5⟩)
            | (go_at_call 16; with_reducible refine (HR1.out _ K7.out).mono ?_; rintro e w8 ⟨d, rfl, K8⟩))
          clear HLf2 HU2 K6 K7 r0 r1 r2 r3 r4 r5 hd1
          go_loopg [18] J (fun kx v wx => ∃ (L : Nat), L ≤ J ∧ J - L ≤ kx ∧ v = .int .i64 L ∧ Hid (QN w pm q s go os d (stT q l L) wx ∧ (stT q l L).In q))
          case atStart => exact ⟨0, by omega, by omega, rfl, K8.out, HI0.out⟩
          case round =>
            obtain ⟨L, hL, hkx3, rfl, K9⟩ := hrel
            clear K8
            by_cases hltL : L < J
            · have hLl : L < l.length := by have := HN.out; omega
              have hL2 : (L : Int) < (J : Int) := by omega
              obtain ⟨g, o, rfl, y0, y1, y2, y3, y4, y5, y6, y7, y8, y9, y10, y11⟩ := en_at (HL.out.nw K9.out.1.qm.n) L hLl
              have hRT : Hid (Calls Try.prog 17 #[.pointer (some ⟨d, 0, none⟩), .agg (l[L]).C] wr fun r w' => r = .returned (.int .i64 ((tkE q (stT q l L) l[L] : Nat) : Int)) ∧ Hid (QN w pm q s go os d (tkS q (stT q l L) l[L]) w')) := HRT.out pm go s os d _ l[L] (HOK.out _ (List.getElem_mem hLl)) K9.out.2 wr K9.out.1
              have HX : Hid (tkE q (stT q l L) l[L] ≠ 180 → tkE q (stT q l L) l[L] ≠ 182 → tkS q (stT q l L) l[L] = stT q l (L + 1) ∧ (stT q l (L + 1)).In q) := fun h1 h2 => by
                have h3 := st_next hLl h1 h2
                exact ⟨h3, by rw [← h3]; exact tkS_in K9.out.2⟩
              clear HRT HL HOK HR1 HM2 HI0 K9
              generalize tkE q (stT q l L) l[L] = t at *
              generalize tkS q (stT q l L) l[L] = sT at *
              generalize l[L] = x at *
              clear hLl
              unfold En.C at hRT
              by_cases ht1 : t = 180
              · have hd1 : ((t : Int) == 180) = true := by rw [ht1]; rfl
                clear ht1
                go_wp2_with (go_at_call 17; with_reducible refine hRT.out.mono ?_; rintro e w9 ⟨rfl, K10⟩)
                go_ret
                exact ⟨rfl, K10.out.qm.n⟩
              have hd1 : ((t : Int) == 180) = false := by rw [beq_eq_false_iff_ne]; omega
              by_cases ht2 : t = 182
              · have hd2 : ((t : Int) == 182) = true := by rw [ht2]; rfl
                clear ht1 ht2
                go_wp2_with (go_at_call 17; with_reducible refine hRT.out.mono ?_; rintro e w9 ⟨rfl, K10⟩)
                go_ret
                exact ⟨rfl, K10.out.qm.n⟩
              have hd2 : ((t : Int) == 182) = false := by rw [beq_eq_false_iff_ne]; omega
              have HX2 := tHid (HX.out ht1 ht2)
              clear ht1 ht2 HX
              go_wp2_with (go_at_call 17; with_reducible refine hRT.out.mono ?_; rintro e w9 ⟨rfl, K10⟩)
              go_roundg (J - (L + 1))
              case measure => omega
              case rel => exact ⟨L + 1, by omega, by omega, by first | rfl | (congr 1), by rw [← HX2.out.1]; exact K10.out, HX2.out.2⟩
            · obtain rfl : L = J := by omega
              have HH : Hid (Hq q l) := by have h := HN.out; subst h; exact st_all K9.out.2
              obtain ⟨b0, b1, b2⟩ := K9.out.1.qm.box
              go_wp2_with (go_at_call 16; with_reducible refine (HR1.out _ K9.out.1.qm).mono ?_; rintro e w10 ⟨d2, rfl, K10⟩)
              clear HR1 K9 b0 b1 b2
              go_loopg [20] L (fun kx v wx => ∃ (M : Nat), M ≤ L ∧ L - M ≤ kx ∧ v = .int .i64 M ∧ Hid (QN w pm q s go os d2 (stT q l M) wx))
              case atStart => exact ⟨0, by omega, by omega, rfl, K10.out⟩
              case round =>
                obtain ⟨M, hM, hkx4, rfl, K11⟩ := hrel
                clear K10
                by_cases hltM : M < L
                · have hMl : M < l.length := by have := HN.out; omega
                  have hMo : M < os.length := by rw [HM2.out.len]; exact hMl
                  have hM2 : (M : Int) < (L : Int) := by omega
                  obtain ⟨g, o, rfl, hcl⟩ : ∃ g o, a = some ⟨g, o, none⟩ ∧ Hid (∀ V, Nw w V → V.cell? ⟨g, o + M * 12, none⟩ = some (.string (mk (l[M]).name)) ∧ V.cell? ⟨g, o + M * 12 + 1, none⟩ = some (.int .i64 (l[M]).kind) ∧ V.cell? ⟨g, o + M * 12 + 2, none⟩ = some (.int .u32 (l[M]).mode) ∧ V.cell? ⟨g, o + M * 12 + 3, none⟩ = some (.int .u32 (l[M]).uid) ∧ V.cell? ⟨g, o + M * 12 + 4, none⟩ = some (.int .u32 (l[M]).gid) ∧ V.cell? ⟨g, o + M * 12 + 5, none⟩ = some (.int .i64 (l[M]).time) ∧ V.cell? ⟨g, o + M * 12 + 6, none⟩ = some (.int .i32 (l[M]).nano) ∧ V.cell? ⟨g, o + M * 12 + 7, none⟩ = some (.string (l[M]).user) ∧ V.cell? ⟨g, o + M * 12 + 8, none⟩ = some (.string (l[M]).group) ∧ V.cell? ⟨g, o + M * 12 + 9, none⟩ = some (.string (l[M]).link) ∧ V.cell? ⟨g, o + M * 12 + 10, none⟩ = some (.int .i64 (l[M]).size) ∧ V.cell? ⟨g, o + M * 12 + 11, none⟩ = some (.int .u8 (l[M]).typ)) := by
                    obtain ⟨g, o, e, c⟩ := en_at HL.out M hMl
                    exact ⟨g, o, e, fun V hV => ⟨hV.cell c.1, hV.cell c.2.1, hV.cell c.2.2.1, hV.cell c.2.2.2.1, hV.cell c.2.2.2.2.1, hV.cell c.2.2.2.2.2.1, hV.cell c.2.2.2.2.2.2.1, hV.cell c.2.2.2.2.2.2.2.1, hV.cell c.2.2.2.2.2.2.2.2.1, hV.cell c.2.2.2.2.2.2.2.2.2.1, hV.cell c.2.2.2.2.2.2.2.2.2.2.1, hV.cell c.2.2.2.2.2.2.2.2.2.2.2⟩⟩
                  have hRT : Hid (∀ V, QN w pm q s go os d2 (stT q l M) V → Calls Try.prog 17 #[.pointer (some ⟨d2, 0, none⟩), .agg (l[M]).C] V fun r w' => r = .returned (.int .i64 ((tkE q (stT q l M) l[M] : Nat) : Int)) ∧ Hid (QN w pm q s go os d2 (stT q l (M + 1)) w')) := fun V hV => by
                    have h1 := HRT.out pm go s os d2 _ l[M] (HOK.out _ (List.getElem_mem hMl)) (st_in HH.out M (by omega)) V hV
                    rw [(st_tk HH.out hMl).2] at h1
                    exact h1
                  have HEQ : Hid (os[M] = 0 ↔ tkE q (stT q l M) l[M] = 0) := by
                    show _ ↔ _
                    rw [(st_tk HH.out hMl).1]
                    constructor
                    · intro h0; exact HM2.out.ok M hMl (by rw [List.getElem?_eq_getElem hMo, h0])
                    · intro h0
                      have := HM2.out.cond HH.out M hMl h0
                      rw [List.getElem?_eq_getElem hMo] at this
                      injection this
                  have HS : Hid (∀ sr V, QN w pm q s go os d2 sr V → V.cell? ⟨go, M, none⟩ = some (.int .i64 ((os[M] : Nat) : Int)) ∧ V.cell? ⟨g, o + M * 12, none⟩ = some (.string (mk (l[M]).name)) ∧ V.cell? ⟨g, o + M * 12 + 1, none⟩ = some (.int .i64 (l[M]).kind) ∧ V.cell? ⟨g, o + M * 12 + 2, none⟩ = some (.int .u32 (l[M]).mode) ∧ V.cell? ⟨g, o + M * 12 + 3, none⟩ = some (.int .u32 (l[M]).uid) ∧ V.cell? ⟨g, o + M * 12 + 4, none⟩ = some (.int .u32 (l[M]).gid) ∧ V.cell? ⟨g, o + M * 12 + 5, none⟩ = some (.int .i64 (l[M]).time) ∧ V.cell? ⟨g, o + M * 12 + 6, none⟩ = some (.int .i32 (l[M]).nano) ∧ V.cell? ⟨g, o + M * 12 + 7, none⟩ = some (.string (l[M]).user) ∧ V.cell? ⟨g, o + M * 12 + 8, none⟩ = some (.string (l[M]).group) ∧ V.cell? ⟨g, o + M * 12 + 9, none⟩ = some (.string (l[M]).link) ∧ V.cell? ⟨g, o + M * 12 + 10, none⟩ = some (.int .i64 (l[M]).size) ∧ V.cell? ⟨g, o + M * 12 + 11, none⟩ = some (.int .u8 (l[M]).typ)) := fun sr V hV => ⟨(hV.qm.o.at M hMo).1, hcl.out V hV.qm.n⟩
                  have K11d : Hid (QN w pm q s go os d2 (stT q l M) wr.drew) := K11.out.nw (Fr.refl _ _).drew
                  clear HRT HL HOK HM2 HI0 HH hcl
                  generalize tkE q (stT q l M) l[M] = t at *
                  generalize l[M] = x at *
                  generalize os[M] = oj at *
                  clear hMl hMo
                  unfold En.C at hRT
                  have HS0 := tHid (HS.out _ _ K11.out)
                  have HSd := tHid (HS.out _ _ K11d.out)
                  by_cases hoj : oj = 0
                  · have ht := HEQ.out.1 hoj
                    have hd1 : ((oj : Int) == 0) = true := by rw [hoj]; rfl
                    have hd2 : ((t : Int) == 0) = true := by rw [ht]; rfl
                    clear hoj ht HEQ
                    go_wp2_with fail
                    go_region_held3 (fun V => V.cell? ⟨go, M, none⟩ = some (.int .i64 (oj : Int)) ∧ V.cell? ⟨g, o + M * 12, none⟩ = some (.string (mk x.name)) ∧ V.cell? ⟨g, o + M * 12 + 1, none⟩ = some (.int .i64 x.kind) ∧ V.cell? ⟨g, o + M * 12 + 2, none⟩ = some (.int .u32 x.mode) ∧ V.cell? ⟨g, o + M * 12 + 3, none⟩ = some (.int .u32 x.uid) ∧ V.cell? ⟨g, o + M * 12 + 4, none⟩ = some (.int .u32 x.gid) ∧ V.cell? ⟨g, o + M * 12 + 5, none⟩ = some (.int .i64 x.time) ∧ V.cell? ⟨g, o + M * 12 + 6, none⟩ = some (.int .i32 x.nano) ∧ V.cell? ⟨g, o + M * 12 + 7, none⟩ = some (.string x.user) ∧ V.cell? ⟨g, o + M * 12 + 8, none⟩ = some (.string x.group) ∧ V.cell? ⟨g, o + M * 12 + 9, none⟩ = some (.string x.link) ∧ V.cell? ⟨g, o + M * 12 + 10, none⟩ = some (.int .i64 x.size) ∧ V.cell? ⟨g, o + M * 12 + 11, none⟩ = some (.int .u8 x.typ))
                      (first | exact HS.out _ _ K12.out | exact HSd.out | exact HS0.out)
                      (first
                        | (go_at_call 17; with_reducible refine (hRT.out _ ?_).mono ?_; (first | exact K11.out | exact K11d.out); rintro e w12 ⟨rfl, K12⟩))
                    all_goals go_wp2_with fail
                    go_roundg (L - (M + 1))
                    case measure => omega
                    case rel => exact ⟨M + 1, by omega, by omega, by first | rfl | (congr 1), K12⟩
                  · have ht : ¬ t = 0 := fun h => hoj (HEQ.out.2 h)
                    have hd1 : ((oj : Int) == 0) = false := by rw [beq_eq_false_iff_ne]; omega
                    have hd2 : ((t : Int) == 0) = false := by rw [beq_eq_false_iff_ne]; omega
                    clear hoj ht HEQ
                    go_wp2_with fail
                    go_region_held3 (fun V => V.cell? ⟨go, M, none⟩ = some (.int .i64 (oj : Int)) ∧ V.cell? ⟨g, o + M * 12, none⟩ = some (.string (mk x.name)) ∧ V.cell? ⟨g, o + M * 12 + 1, none⟩ = some (.int .i64 x.kind) ∧ V.cell? ⟨g, o + M * 12 + 2, none⟩ = some (.int .u32 x.mode) ∧ V.cell? ⟨g, o + M * 12 + 3, none⟩ = some (.int .u32 x.uid) ∧ V.cell? ⟨g, o + M * 12 + 4, none⟩ = some (.int .u32 x.gid) ∧ V.cell? ⟨g, o + M * 12 + 5, none⟩ = some (.int .i64 x.time) ∧ V.cell? ⟨g, o + M * 12 + 6, none⟩ = some (.int .i32 x.nano) ∧ V.cell? ⟨g, o + M * 12 + 7, none⟩ = some (.string x.user) ∧ V.cell? ⟨g, o + M * 12 + 8, none⟩ = some (.string x.group) ∧ V.cell? ⟨g, o + M * 12 + 9, none⟩ = some (.string x.link) ∧ V.cell? ⟨g, o + M * 12 + 10, none⟩ = some (.int .i64 x.size) ∧ V.cell? ⟨g, o + M * 12 + 11, none⟩ = some (.int .u8 x.typ))
                      (first | exact HS.out _ _ K12.out | exact HSd.out | exact HS0.out)
                      (first
                        | (go_at_call 17; with_reducible refine (hRT.out _ ?_).mono ?_; (first | exact K11.out | exact K11d.out); rintro e w12 ⟨rfl, K12⟩))
                    all_goals go_wp2_with fail
                    go_roundg (L - (M + 1))
                    case measure => omega
                    case rel => exact ⟨M + 1, by omega, by omega, by first | rfl | (congr 1), K12⟩
                · go_wp2_with fail
                  go_ret
                  exact ⟨rfl, K11.out.qm.n⟩
theorem qman_any (w : World) (q : Qt) (hq : q.Ok) (a : Option Addr) (c : Nat) (l : List En) (hl : SlR RE (fun k => w.heap.size ≤ k) (.slice a l.length c) l w) (hok : ∀ x ∈ l, x.Ok) (hlen : l.length ≤ 1172812402961) (x2 : Int) (hx : (Lit.int .u16 x2).wf = true) :
    Calls Try.prog 4 #[.agg q.C, .slice a l.length c, .int .u16 x2] w fun e w' => e = .returned (.bool true) ∧ Nw w w' := by
  have hb : 0 ≤ x2 ∧ x2 < 65536 := by simp [Lit.wf, IntKind.bits, IntKind.signed, IntKind.min, IntKind.max] at hx; omega
  obtain ⟨T, rfl⟩ : ∃ T : Nat, x2 = (T : Int) := ⟨x2.toNat, by omega⟩
  by_cases hc : q.can = true
  · exact qman_yes w q hq hc a c l hl hok hlen T (by omega)
  · exact qman_no w q (by simpa using hc) _ _
end Go.Proofs.Ytfjjgjkgicabjaa
