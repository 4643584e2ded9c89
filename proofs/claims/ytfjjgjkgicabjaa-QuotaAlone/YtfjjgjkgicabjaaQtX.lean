import Derived.Test.YtfjjgjkgicabjaaQtW
namespace Go.Proofs.Ytfjjgjkgicabjaa
open Go.RowKit Go.MuLone
set_option linter.unusedVariables false
set_option maxHeartbeats 4000000 in
theorem qalo_no (w : World) (q : Qt) (hc : q.can = false) (v1 : Value) (o : En) :
    Calls Try.prog 5 #[.agg q.C, v1, .agg o.C] w fun e w' => e = .returned (.bool true) ∧ Nw w w' := by
  have HV : Hid (∀ V, V.heap[w.heap.size]? = some (.cells q.C 23) → Calls Try.prog 10 #[] V fun e w' => e = .returned (.bool true) ∧ Hid (Nw V w' ∧ w'.heap[w.heap.size]? = some (.cells q.C 23)) ∧ w'.cell? ⟨w.heap.size, 0, none⟩ = some (.int .i64 q.B) ∧ w'.cell? ⟨w.heap.size, 1, none⟩ = some (.int .i64 q.E) ∧ w'.cell? ⟨w.heap.size, 2, none⟩ = some (.int .i64 q.D)) := fun V hV => (lives_any V).mono (fun e w' ⟨e1, e3⟩ => ⟨e1, ⟨e3, e3.heap hV⟩, (quota_row hV e3).2⟩)
  have H1 : Hid (∀ V, V.heap[w.heap.size]? = some (.cells q.C 23) → Calls Try.prog 11 #[.agg q.C] V fun e w' => e = .returned (.tuple #[.pointer none, .int .i64 1]) ∧ Hid (Nw V w' ∧ w'.heap[w.heap.size]? = some (.cells q.C 23)) ∧ w'.cell? ⟨w.heap.size, 0, none⟩ = some (.int .i64 q.B) ∧ w'.cell? ⟨w.heap.size, 1, none⟩ = some (.int .i64 q.E) ∧ w'.cell? ⟨w.heap.size, 2, none⟩ = some (.int .i64 q.D)) := fun V hV => (new_no V q hc).mono (fun e w' ⟨e1, e3⟩ => ⟨e1, ⟨e3, e3.heap hV⟩, (quota_row hV e3).2⟩)
  have H4 : Hid (∀ V, Calls Try.prog 12 #[.agg q.C] V fun e w' => e = .returned (.bool false) ∧ Hid (Nw V w')) := fun V => by have := rcan_any V q; rw [hc] at this; exact this
  clear hc
  unfold Qt.C En.C at *
  go_enter Try.func5, Try.ntmps5
  go_wp2_with (first
    | (go_at_call 10; with_reducible refine (HV.out _ (two_rows _ _ _).1).mono ?_; rintro e w1 ⟨rfl, K1, r1, r2, r3⟩)
    | (go_at_call 11; with_reducible refine (H1.out _ K1.out.2).mono ?_; rintro e w2 ⟨rfl, K2, t1, t2, t3⟩)
    | (go_at_call 11; with_reducible refine (H1.out _ K2.out.2).mono ?_; rintro e w3 ⟨rfl, K3, u1, u2, u3⟩)
    | (go_at_call 12; with_reducible refine (H4.out _).mono ?_; rintro e w4 ⟨rfl, K4⟩))
  go_ret
  exact ⟨rfl, (((((((Fr.refl _ _).alloc _).alloc _).trans K1.out.1).trans K2.out.1).trans K3.out.1).trans K4.out)⟩
set_option maxHeartbeats 16000000 in
set_option maxRecDepth 100000 in
theorem qalo_yes (w : World) (q : Qt) (hq : q.Ok) (hc : q.can = true) (a : Option Addr) (c : Nat) (l : List En) (hl : SlR RE (fun k => w.heap.size ≤ k) (.slice a l.length c) l w) (hok : ∀ x ∈ l, x.Ok) (hlen : l.length ≤ 1172812402961) (o : En) (ho : o.Ok) :
    Calls Try.prog 5 #[.agg q.C, .slice a l.length c, .agg o.C] w fun e w' => e = .returned (.bool true) ∧ Nw w w' := by
  have HV : Hid (∀ V, V.heap[w.heap.size]? = some (.cells q.C 23) → V.heap[w.heap.size + 1]? = some (.cells o.C 38) → Nw w V → Calls Try.prog 10 #[] V fun e w' => e = .returned (.bool true) ∧ Hid (Nw w w' ∧ w'.heap[w.heap.size]? = some (.cells q.C 23) ∧ w'.heap[w.heap.size + 1]? = some (.cells o.C 38)) ∧ w'.cell? ⟨w.heap.size, 0, none⟩ = some (.int .i64 q.B) ∧ w'.cell? ⟨w.heap.size, 1, none⟩ = some (.int .i64 q.E) ∧ w'.cell? ⟨w.heap.size, 2, none⟩ = some (.int .i64 q.D)) := fun V hV hV2 hn => (lives_any V).mono (fun e w' ⟨e1, e3⟩ => ⟨e1, ⟨hn.trans e3, e3.heap hV, e3.heap hV2⟩, (quota_row hV e3).2⟩)
  have H1 : Hid (∀ V, Nw w V ∧ V.heap[w.heap.size]? = some (.cells q.C 23) ∧ V.heap[w.heap.size + 1]? = some (.cells o.C 38) → Calls Try.prog 11 #[.agg q.C] V fun e w' => ∃ pa, e = .returned (.tuple #[.pointer (some ⟨pa, 0, none⟩), .int .i64 0]) ∧ Hid (MtB pa q ⟨0, 0⟩ w' ∧ w.heap.size + 1 < pa ∧ Nw w w' ∧ w'.heap[w.heap.size + 1]? = some (.cells o.C 38)) ∧ w'.cell? ⟨w.heap.size, 0, none⟩ = some (.int .i64 q.B) ∧ w'.cell? ⟨w.heap.size, 1, none⟩ = some (.int .i64 q.E) ∧ w'.cell? ⟨w.heap.size, 2, none⟩ = some (.int .i64 q.D)) := fun V hV => (new_yes V q hc).mono (fun e w' ⟨pa, e1, e2, e3, e4⟩ => ⟨pa, e1, ⟨e3, by have := (Array.getElem?_eq_some_iff.1 hV.2.2).1; omega, hV.1.trans e4, e4.heap hV.2.2⟩, (quota_row hV.2.1 e4).2⟩)
  have H2 : Hid (∀ pa V, MtB pa q ⟨0, 0⟩ V ∧ w.heap.size + 1 < pa ∧ Nw w V ∧ V.heap[w.heap.size + 1]? = some (.cells o.C 38) → Calls Try.prog 11 #[.agg q.C] V fun e w' => ∃ pb, e = .returned (.tuple #[.pointer (some ⟨pb, 0, none⟩), .int .i64 0]) ∧ Hid (QO w pa pb q ⟨0, 0⟩ ⟨0, 0⟩ w' ∧ w'.heap[w.heap.size + 1]? = some (.cells o.C 38) ∧ w.heap.size + 1 ≠ pa ∧ w.heap.size + 1 ≠ pb)) := fun pa V hV => (new_yes V q hc).mono (fun e w' ⟨pb, e1, e2, e3, e4⟩ => ⟨pb, e1, ⟨e4.heap hV.1, e3, hV.2.2.1.trans e4, by have := hV.2.1; omega, Nat.le_trans hV.2.2.1.size e2, by have := hV.1.lt; omega⟩, e4.heap hV.2.2.2, by have := hV.2.1; omega, by have := hV.1.lt; have := hV.2.1; omega⟩)
  have HTA : Hid (∀ X G x y W pa pb s sb, x.Ok → s.In q → ∀ V, AL w o X G x y W pa pb q s sb V → Calls Try.prog 13 #[.pointer (some ⟨pa, 0, none⟩), .agg x.C] V fun r w' => r = .returned (.int .i64 ((tkE q s x : Nat) : Int)) ∧ Hid (AL w o X G x y W pa pb q (tkS q s x) sb w')) := fun X G x y W pa pb s sb he hi V h => (mtake_any V pa q s x h.qo.a hi hq he).mono (fun r w' ⟨e1, e2, e3⟩ => ⟨e1, h.onA e2 e3⟩)
  have HTB : Hid (∀ X G x W pa pb sa s, x.Ok → s.In q → ∀ V, AL w o X G x (yOf o x) W pa pb q sa s V → Calls Try.prog 13 #[.pointer (some ⟨pb, 0, none⟩), .agg (yOf o x).C] V fun r w' => r = .returned (.int .i64 ((tkE q s x : Nat) : Int)) ∧ Hid (AL w o X G x (yOf o x) W pa pb q sa (tkS q s x) w')) := fun X G x W pa pb sa s he hi V h => (mtake_any V pb q s (yOf o x) h.qo.b hi hq (y_ok ho he)).mono (fun r w' ⟨e1, e2, e3⟩ => ⟨by rw [e1, (y_tk q s o x).1], h.onB (by rw [← (y_tk q s o x).2]; exact e2) e3⟩)
  have HLA : Hid (∀ X G x y W pa pb s sb, s.In q → ∀ V, AL w o X G x y W pa pb q s sb V → Calls Try.prog 14 #[.pointer (some ⟨pa, 0, none⟩)] V fun r w' => r = .returned (.agg (q.left s).C) ∧ Hid (AL w o X G x y W pa pb q s sb w')) := fun X G x y W pa pb s sb hi V h => (mleft_any V pa q s h.qo.a hi hq).mono (fun r w' ⟨e1, e2, e3⟩ => ⟨e1, h.onA e2 e3⟩)
  have HLB : Hid (∀ X G x y W pa pb sa s, s.In q → ∀ V, AL w o X G x y W pa pb q sa s V → Calls Try.prog 14 #[.pointer (some ⟨pb, 0, none⟩)] V fun r w' => r = .returned (.agg (q.left s).C) ∧ Hid (AL w o X G x y W pa pb q sa s w')) := fun X G x y W pa pb sa s hi V h => (mleft_any V pb q s h.qo.b hi hq).mono (fun r w' ⟨e1, e2, e3⟩ => ⟨e1, h.onB e2 e3⟩)
  have HBA : Hid (∀ X G x y W pa pb s sb, x.Ok → s.In q → tkE q s x = 0 → ∀ V, AL w o X G x y W pa pb q (tkS q s x) sb V → Calls Try.prog 18 #[.pointer (some ⟨pa, 0, none⟩), .agg x.C] V fun r w' => r = .returned (.int .i64 0) ∧ Hid (AL w o X G x y W pa pb q s sb w')) := fun X G x y W pa pb s sb he hi ht V h => (mback_any V pa q (tkS q s x) x h.qo.a (tkS_in hi) hq he).mono (fun r w' ⟨e1, e2, e3⟩ => ⟨by rw [e1, (tk_back hi ht).1]; rfl, h.onA (by rw [← (tk_back hi ht).2]; exact e2) e3⟩)
  have HUA : Hid (∀ pa pb s, ∀ V, QO w pa pb q s s V → Calls Try.prog 15 #[.pointer (some ⟨pa, 0, none⟩)] V fun r w' => r = .returned (.agg s.used.C) ∧ Hid (QO w pa pb q s s w')) := fun pa pb s V h => (mused_any V pa q s h.a).mono (fun r w' ⟨e1, e2, e3⟩ => ⟨e1, h.onA e2 e3⟩)
  have HUB : Hid (∀ pa pb s, ∀ V, QO w pa pb q s s V → Calls Try.prog 15 #[.pointer (some ⟨pb, 0, none⟩)] V fun r w' => r = .returned (.agg s.used.C) ∧ Hid (QO w pa pb q s s w')) := fun pa pb s V h => (mused_any V pb q s h.b).mono (fun r w' ⟨e1, e2, e3⟩ => ⟨e1, h.onB e2 e3⟩)
  have HL0 : Hid (∀ wr pa pb s x, s.In q → QO w pa pb q s s wr → wr.heap[w.heap.size + 1]? = some (.cells o.C 38) → w.heap.size + 1 ≠ pa → w.heap.size + 1 ≠ pb → ∀ V, Nw wr V → V.heap[wr.heap.size]? = some (.cells x.C 38) → V.heap[wr.heap.size + 1]? = some (.cells (yOf o x).C 38) → Calls Try.prog 14 #[.pointer (some ⟨pa, 0, none⟩)] V fun r w' => r = .returned (.agg (q.left s).C) ∧ Hid (AL w o wr.heap.size w'.heap.size x (yOf o x) (q.left s).C pa pb q s s (w'.alloc (.cells (q.left s).C 23))) ∧ wr.heap.size < w'.heap.size ∧ w'.cell? ⟨wr.heap.size, 0, none⟩ = some (.string (mk x.name)) ∧ w'.cell? ⟨wr.heap.size, 1, none⟩ = some (.int .i64 x.kind) ∧ w'.cell? ⟨wr.heap.size, 2, none⟩ = some (.int .u32 x.mode) ∧ w'.cell? ⟨wr.heap.size, 3, none⟩ = some (.int .u32 x.uid) ∧ w'.cell? ⟨wr.heap.size, 4, none⟩ = some (.int .u32 x.gid) ∧ w'.cell? ⟨wr.heap.size, 5, none⟩ = some (.int .i64 x.time) ∧ w'.cell? ⟨wr.heap.size, 6, none⟩ = some (.int .i32 x.nano) ∧ w'.cell? ⟨wr.heap.size, 7, none⟩ = some (.string x.user) ∧ w'.cell? ⟨wr.heap.size, 8, none⟩ = some (.string x.group) ∧ w'.cell? ⟨wr.heap.size, 9, none⟩ = some (.string x.link) ∧ w'.cell? ⟨wr.heap.size, 10, none⟩ = some (.int .i64 x.size) ∧ w'.cell? ⟨wr.heap.size, 11, none⟩ = some (.int .u8 x.typ)) := fun wr pa pb s x hi hQ hoo n7 n8 V hV hx hy => (mleft_any V pa q s (hV.heap hQ.a) hi hq).mono (fun r w' ⟨e1, e2, e3⟩ => ⟨e1, al_start hQ hoo n7 n8 hV hx hy e2 e3, Nat.lt_of_lt_of_le (Array.getElem?_eq_some_iff.1 hx).1 e3.size, enC_cells (row_kept hx e3 (by have := hQ.a.lt; omega))⟩)
  have HL : Hid (SlR RE (fun k => w.heap.size ≤ k) (.slice a l.length c) l w) := hl
  have HOK : Hid (∀ x ∈ l, x.Ok) := hok
  have HI0 : Hid (St.In q ⟨0, 0⟩) := In0 hc
  obtain ⟨hc0, hc1⟩ : l.length ≤ c ∧ c < 9223372036854775808 := by
    obtain ⟨a', c', e, h1, h2, _⟩ := hl.form
    injection e with _ _ e3
    subst e3
    exact ⟨h1, h2⟩
  clear hq hc hl hok ho
  obtain ⟨N, hN⟩ : ∃ N, N = l.length := ⟨_, rfl⟩
  have HN : Hid (N = l.length) := hN
  rw [← hN] at HL hc0 hlen ⊢
  clear hN
  unfold Qt.C at HV H1 H2 ⊢
  unfold En.C at HV H1 H2 ⊢
  go_enter Try.func5, Try.ntmps5
  go_wp2_with (first
    | (go_at_call 10; with_reducible refine (HV.out _ (two_rows _ _ _).1 (two_rows _ _ _).2 (((Fr.refl _ _).alloc _).alloc _)).mono ?_; rintro e w1 ⟨rfl, K1, r1, r2, r3⟩)
    | (go_at_call 11; with_reducible refine (H1.out _ K1.out).mono ?_; rintro e w2 ⟨pa, rfl, K2, t1, t2, t3⟩)
    | (go_at_call 11; with_reducible refine (H2.out pa _ K2.out).mono ?_; rintro e w3 ⟨pb, rfl, K3⟩))
  clear HV H1 H2 K1 K2 r1 r2 r3 t1 t2 t3
  go_loopg [11] N (fun kx i wr => ∃ (I : Nat) (s : St), I ≤ N ∧ N - I ≤ kx ∧ i = .int .i64 I ∧ Hid ((QO w pa pb q s s wr ∧ wr.heap[w.heap.size + 1]? = some (.cells o.C 38) ∧ w.heap.size + 1 ≠ pa ∧ w.heap.size + 1 ≠ pb) ∧ s.In q))
  case atStart => exact ⟨0, _, by omega, by omega, rfl, K3.out, HI0.out⟩
  case round =>
    obtain ⟨I, s, hI, hkx, rfl, K⟩ := hrel
    clear K3 HI0
    by_cases hlt : I < N
    · have hlt' : I < l.length := by have := HN.out; omega
      obtain ⟨g, o', rfl, y0, y1, y2, y3, y4, y5, y6, y7, y8, y9, y10, y11⟩ := en_at (HL.out.nw K.out.1.1.n) I hlt'
      obtain ⟨z0, z1, z2, z3, z4, z5, z6, z7, z8, z9, z10, z11⟩ := enC_cells K.out.1.2.1
      have hob : w.heap.size + 1 < wr.heap.size := (Array.getElem?_eq_some_iff.1 K.out.1.2.1).1
      have hob2 : ¬ w.heap.size + 1 = wr.heap.size := by omega
      have hXO : Hid ((l[I]).Ok) := HOK.out _ (List.getElem_mem hlt')
      clear HUA HUB HL HOK
      generalize l[I] = x at *
      clear hlt'
      have hIn : Hid (s.In q) := K.out.2
      obtain ⟨y, hy⟩ : ∃ y, y = yOf o x := ⟨_, rfl⟩
      obtain ⟨t, ht⟩ : ∃ t, t = tkE q s x := ⟨_, rfl⟩
      obtain ⟨sT, hsT⟩ : ∃ sT, sT = tkS q s x := ⟨_, rfl⟩
      have HY2 : Hid (x.kind = 2 → y.C = #[.string (mk x.name), .int .i64 x.kind, .int .u32 o.mode, .int .u32 o.uid, .int .u32 o.gid, .int .i64 o.time, .int .i32 o.nano, .string o.user, .string o.group, .string o.link, .int .i64 x.size, .int .u8 o.typ]) := fun hk => by rw [hy]; unfold yOf En.C; simp only [if_pos hk]
      have HY3 : Hid (¬ x.kind = 2 → y.C = #[.string (mk x.name), .int .i64 x.kind, .int .u32 o.mode, .int .u32 o.uid, .int .u32 o.gid, .int .i64 o.time, .int .i32 o.nano, .string o.user, .string o.group, .string o.link, .int .i64 o.size, .int .u8 o.typ]) := fun hk => by rw [hy]; unfold yOf En.C; simp only [if_neg hk]
      have hL0 : Hid (∀ V, Nw wr V → V.heap[wr.heap.size]? = some (.cells x.C 38) → V.heap[wr.heap.size + 1]? = some (.cells y.C 38) → Calls Try.prog 14 #[.pointer (some ⟨pa, 0, none⟩)] V fun r w' => r = .returned (.agg #[.int .i64 (q.B - s.b), .int .i64 (q.E - s.n), .int .i64 q.D]) ∧ Hid (AL w o wr.heap.size w'.heap.size x y (q.left s).C pa pb q s s (w'.alloc (.cells #[.int .i64 (q.B - s.b), .int .i64 (q.E - s.n), .int .i64 q.D] 23))) ∧ wr.heap.size < w'.heap.size ∧ w'.cell? ⟨wr.heap.size, 0, none⟩ = some (.string (mk x.name)) ∧ w'.cell? ⟨wr.heap.size, 1, none⟩ = some (.int .i64 x.kind) ∧ w'.cell? ⟨wr.heap.size, 2, none⟩ = some (.int .u32 x.mode) ∧ w'.cell? ⟨wr.heap.size, 3, none⟩ = some (.int .u32 x.uid) ∧ w'.cell? ⟨wr.heap.size, 4, none⟩ = some (.int .u32 x.gid) ∧ w'.cell? ⟨wr.heap.size, 5, none⟩ = some (.int .i64 x.time) ∧ w'.cell? ⟨wr.heap.size, 6, none⟩ = some (.int .i32 x.nano) ∧ w'.cell? ⟨wr.heap.size, 7, none⟩ = some (.string x.user) ∧ w'.cell? ⟨wr.heap.size, 8, none⟩ = some (.string x.group) ∧ w'.cell? ⟨wr.heap.size, 9, none⟩ = some (.string x.link) ∧ w'.cell? ⟨wr.heap.size, 10, none⟩ = some (.int .i64 x.size) ∧ w'.cell? ⟨wr.heap.size, 11, none⟩ = some (.int .u8 x.typ)) := fun V h1 h2 h3 => by
        have h4 := HL0.out wr pa pb s x K.out.2 K.out.1.1 K.out.1.2.1 K.out.1.2.2.1 K.out.1.2.2.2 V h1 h2 (by rw [← hy]; exact h3)
        rw [← hy] at h4
        exact h4
      have hTA : Hid (∀ G V, AL w o wr.heap.size G x y (q.left s).C pa pb q s s V → Calls Try.prog 13 #[.pointer (some ⟨pa, 0, none⟩), .agg x.C] V fun r w' => r = .returned (.int .i64 (t : Nat)) ∧ Hid (AL w o wr.heap.size G x y (q.left s).C pa pb q sT s w')) := fun G V h => by rw [ht, hsT]; exact HTA.out _ G x _ _ pa pb s s hXO.out hIn.out V h
      have hTB : Hid (∀ G V, AL w o wr.heap.size G x y (q.left s).C pa pb q sT s V → Calls Try.prog 13 #[.pointer (some ⟨pb, 0, none⟩), .agg y.C] V fun r w' => r = .returned (.int .i64 (t : Nat)) ∧ Hid (AL w o wr.heap.size G x y (q.left s).C pa pb q sT sT w')) := fun G V h => by
        have h2 := HTB.out _ G x _ pa pb sT s hXO.out hIn.out V (by rw [← hy]; exact h)
        rw [← hy, ← ht, ← hsT] at h2
        exact h2
      have hLA : Hid (∀ G V, AL w o wr.heap.size G x y (q.left s).C pa pb q sT sT V → Calls Try.prog 14 #[.pointer (some ⟨pa, 0, none⟩)] V fun r w' => r = .returned (.agg #[.int .i64 (q.B - sT.b), .int .i64 (q.E - sT.n), .int .i64 q.D]) ∧ Hid (AL w o wr.heap.size G x y (q.left s).C pa pb q sT sT w')) := fun G V h => HLA.out _ G x _ _ pa pb sT sT (by rw [hsT]; exact tkS_in hIn.out) V h
      have hLB : Hid (∀ G V, AL w o wr.heap.size G x y (q.left s).C pa pb q sT sT V → Calls Try.prog 14 #[.pointer (some ⟨pb, 0, none⟩)] V fun r w' => r = .returned (.agg #[.int .i64 (q.B - sT.b), .int .i64 (q.E - sT.n), .int .i64 q.D]) ∧ Hid (AL w o wr.heap.size G x y (q.left s).C pa pb q sT sT w')) := fun G V h => HLB.out _ G x _ _ pa pb sT sT (by rw [hsT]; exact tkS_in hIn.out) V h
      have hBA : Hid (t = 0 → ∀ G V, AL w o wr.heap.size G x y (q.left s).C pa pb q sT sT V → Calls Try.prog 18 #[.pointer (some ⟨pa, 0, none⟩), .agg x.C] V fun r w' => r = .returned (.int .i64 0) ∧ Hid (AL w o wr.heap.size G x y (q.left s).C pa pb q s sT w')) := fun h0 G V h => HBA.out _ G x _ _ pa pb s sT hXO.out hIn.out (by rw [← ht]; exact h0) V (by rw [← hsT]; exact h)
      have hLA2 : Hid (∀ G V, AL w o wr.heap.size G x y (q.left s).C pa pb q s sT V → Calls Try.prog 14 #[.pointer (some ⟨pa, 0, none⟩)] V fun r w' => r = .returned (.agg #[.int .i64 (q.B - s.b), .int .i64 (q.E - s.n), .int .i64 q.D]) ∧ Hid (AL w o wr.heap.size G x y (q.left s).C pa pb q s sT w')) := fun G V h => HLA.out _ G x _ _ pa pb s sT hIn.out V h
      have hTA2 : Hid (∀ G V, AL w o wr.heap.size G x y (q.left s).C pa pb q s sT V → Calls Try.prog 13 #[.pointer (some ⟨pa, 0, none⟩), .agg x.C] V fun r w' => r = .returned (.int .i64 (t : Nat)) ∧ Hid (AL w o wr.heap.size G x y (q.left s).C pa pb q sT sT w')) := fun G V h => by rw [ht]; have h2 := HTA.out _ G x _ _ pa pb s sT hXO.out hIn.out V h; rw [← hsT] at h2; exact h2
      have hNX : Hid (sT.In q) := by rw [hsT]; exact tkS_in hIn.out
      have hTS : Hid (t ≠ 0 → sT = s) := fun h0 => by rw [hsT]; unfold tkS; rw [if_neg (by rw [← ht]; exact h0)]
      have hNext : Hid (∀ G V, AL w o wr.heap.size G x y (q.left s).C pa pb q sT sT V → (QO w pa pb q sT sT V ∧ V.heap[w.heap.size + 1]? = some (.cells o.C 38) ∧ w.heap.size + 1 ≠ pa ∧ w.heap.size + 1 ≠ pb)) := fun G V h => ⟨h.qo, h.oo, h.n1.2.2.2.2.2.2.1, h.n1.2.2.2.2.2.2.2⟩
      have HSY : Hid (∀ G sa sb V, AL w o wr.heap.size G x y (q.left s).C pa pb q sa sb V → (V.cell? ⟨wr.heap.size + 1, 0, none⟩ = some (.string (mk y.name)) ∧ V.cell? ⟨wr.heap.size + 1, 1, none⟩ = some (.int .i64 y.kind) ∧ V.cell? ⟨wr.heap.size + 1, 2, none⟩ = some (.int .u32 y.mode) ∧ V.cell? ⟨wr.heap.size + 1, 3, none⟩ = some (.int .u32 y.uid) ∧ V.cell? ⟨wr.heap.size + 1, 4, none⟩ = some (.int .u32 y.gid) ∧ V.cell? ⟨wr.heap.size + 1, 5, none⟩ = some (.int .i64 y.time) ∧ V.cell? ⟨wr.heap.size + 1, 6, none⟩ = some (.int .i32 y.nano) ∧ V.cell? ⟨wr.heap.size + 1, 7, none⟩ = some (.string y.user) ∧ V.cell? ⟨wr.heap.size + 1, 8, none⟩ = some (.string y.group) ∧ V.cell? ⟨wr.heap.size + 1, 9, none⟩ = some (.string y.link) ∧ V.cell? ⟨wr.heap.size + 1, 10, none⟩ = some (.int .i64 y.size) ∧ V.cell? ⟨wr.heap.size + 1, 11, none⟩ = some (.int .u8 y.typ) ∧ V.cell? ⟨G, 0, none⟩ = some (.int .i64 (q.B - s.b)) ∧ V.cell? ⟨G, 1, none⟩ = some (.int .i64 (q.E - s.n)) ∧ V.cell? ⟨G, 2, none⟩ = some (.int .i64 q.D))) := fun G sa sb V h => by
        obtain ⟨c0, c1, c2, c3, c4, c5, c6, c7, c8, c9, c10, c11⟩ := enC_cells h.ey
        obtain ⟨d0, d1, d2⟩ := row3 (show V.heap[G]? = some (.cells #[.int .i64 (q.B - s.b), .int .i64 (q.E - s.n), .int .i64 q.D] 23) from h.wa)
        exact ⟨c0, c1, c2, c3, c4, c5, c6, c7, c8, c9, c10, c11, d0, d1, d2⟩
      have HSX : Hid (∀ G sa sb V, AL w o wr.heap.size G x y (q.left s).C pa pb q sa sb V → (V.cell? ⟨wr.heap.size, 0, none⟩ = some (.string (mk x.name)) ∧ V.cell? ⟨wr.heap.size, 1, none⟩ = some (.int .i64 x.kind) ∧ V.cell? ⟨wr.heap.size, 2, none⟩ = some (.int .u32 x.mode) ∧ V.cell? ⟨wr.heap.size, 3, none⟩ = some (.int .u32 x.uid) ∧ V.cell? ⟨wr.heap.size, 4, none⟩ = some (.int .u32 x.gid) ∧ V.cell? ⟨wr.heap.size, 5, none⟩ = some (.int .i64 x.time) ∧ V.cell? ⟨wr.heap.size, 6, none⟩ = some (.int .i32 x.nano) ∧ V.cell? ⟨wr.heap.size, 7, none⟩ = some (.string x.user) ∧ V.cell? ⟨wr.heap.size, 8, none⟩ = some (.string x.group) ∧ V.cell? ⟨wr.heap.size, 9, none⟩ = some (.string x.link) ∧ V.cell? ⟨wr.heap.size, 10, none⟩ = some (.int .i64 x.size) ∧ V.cell? ⟨wr.heap.size, 11, none⟩ = some (.int .u8 x.typ) ∧ V.cell? ⟨G, 0, none⟩ = some (.int .i64 (q.B - s.b)) ∧ V.cell? ⟨G, 1, none⟩ = some (.int .i64 (q.E - s.n)) ∧ V.cell? ⟨G, 2, none⟩ = some (.int .i64 q.D))) := fun G sa sb V h => by
        obtain ⟨c0, c1, c2, c3, c4, c5, c6, c7, c8, c9, c10, c11⟩ := enC_cells h.ex
        obtain ⟨d0, d1, d2⟩ := row3 (show V.heap[G]? = some (.cells #[.int .i64 (q.B - s.b), .int .i64 (q.E - s.n), .int .i64 q.D] 23) from h.wa)
        exact ⟨c0, c1, c2, c3, c4, c5, c6, c7, c8, c9, c10, c11, d0, d1, d2⟩
      have HXC : Hid (x.C = #[.string (mk x.name), .int .i64 x.kind, .int .u32 x.mode, .int .u32 x.uid, .int .u32 x.gid, .int .i64 x.time, .int .i32 x.nano, .string x.user, .string x.group, .string x.link, .int .i64 x.size, .int .u8 x.typ]) := rfl
      clear HL0 HTA HTB HLA HLB HBA hIn hXO hy ht hsT
      have HKN : Hid (True) := trivial
      unfold En.C at hTA hTB hBA hTA2
      by_cases hk : x.kind = 2
      · have hdk : (x.kind == 2) = true := by rw [hk]; rfl
        have HYC := tHid (HY2.out hk)
        clear hk HY2 HY3
        have hL5 : Hid (Calls Try.prog 14 #[.pointer (some ⟨pa, 0, none⟩)] (((wr.alloc (.cells #[.string (mk x.name), .int .i64 x.kind, .int .u32 x.mode, .int .u32 x.uid, .int .u32 x.gid, .int .i64 x.time, .int .i32 x.nano, .string x.user, .string x.group, .string x.link, .int .i64 x.size, .int .u8 x.typ] 38)).alloc (.cells #[.string (mk x.name), .int .i64 x.kind, .int .u32 o.mode, .int .u32 o.uid, .int .u32 o.gid, .int .i64 o.time, .int .i32 o.nano, .string o.user, .string o.group, .string o.link, .int .i64 x.size, .int .u8 o.typ] 38)).drew) fun r w' => r = .returned (.agg #[.int .i64 (q.B - s.b), .int .i64 (q.E - s.n), .int .i64 q.D]) ∧ Hid (AL w o wr.heap.size w'.heap.size x y (q.left s).C pa pb q s s (w'.alloc (.cells #[.int .i64 (q.B - s.b), .int .i64 (q.E - s.n), .int .i64 q.D] 23))) ∧ wr.heap.size < w'.heap.size ∧ w'.cell? ⟨wr.heap.size, 0, none⟩ = some (.string (mk x.name)) ∧ w'.cell? ⟨wr.heap.size, 1, none⟩ = some (.int .i64 x.kind) ∧ w'.cell? ⟨wr.heap.size, 2, none⟩ = some (.int .u32 x.mode) ∧ w'.cell? ⟨wr.heap.size, 3, none⟩ = some (.int .u32 x.uid) ∧ w'.cell? ⟨wr.heap.size, 4, none⟩ = some (.int .u32 x.gid) ∧ w'.cell? ⟨wr.heap.size, 5, none⟩ = some (.int .i64 x.time) ∧ w'.cell? ⟨wr.heap.size, 6, none⟩ = some (.int .i32 x.nano) ∧ w'.cell? ⟨wr.heap.size, 7, none⟩ = some (.string x.user) ∧ w'.cell? ⟨wr.heap.size, 8, none⟩ = some (.string x.group) ∧ w'.cell? ⟨wr.heap.size, 9, none⟩ = some (.string x.link) ∧ w'.cell? ⟨wr.heap.size, 10, none⟩ = some (.int .i64 x.size) ∧ w'.cell? ⟨wr.heap.size, 11, none⟩ = some (.int .u8 x.typ)) := hL0.out _ ((((Fr.refl _ _).alloc _).alloc _).drew) (two_rows wr (.cells x.C 38) _).1 (by rw [HYC.out]; exact (two_rows _ _ _).2)
        clear hL0 HYC
        by_cases ht0 : t = 0
        · have hTA' : Hid (∀ G V, AL w o wr.heap.size G x y (q.left s).C pa pb q s s V → Calls Try.prog 13 #[.pointer (some ⟨pa, 0, none⟩), .agg #[.string (mk x.name), .int .i64 x.kind, .int .u32 x.mode, .int .u32 x.uid, .int .u32 x.gid, .int .i64 x.time, .int .i32 x.nano, .string x.user, .string x.group, .string x.link, .int .i64 x.size, .int .u8 x.typ]] V fun r w' => r = .returned (.int .i64 0) ∧ Hid (AL w o wr.heap.size G x y (q.left s).C pa pb q sT s w')) := fun G V h => by have h2 := hTA.out G V h; rw [ht0] at h2; exact h2
          have hTB' : Hid (∀ G V, AL w o wr.heap.size G x y (q.left s).C pa pb q sT s V → Calls Try.prog 13 #[.pointer (some ⟨pb, 0, none⟩), .agg #[.string (mk y.name), .int .i64 y.kind, .int .u32 y.mode, .int .u32 y.uid, .int .u32 y.gid, .int .i64 y.time, .int .i32 y.nano, .string y.user, .string y.group, .string y.link, .int .i64 y.size, .int .u8 y.typ]] V fun r w' => r = .returned (.int .i64 0) ∧ Hid (AL w o wr.heap.size G x y (q.left s).C pa pb q sT sT w')) := fun G V h => by have h2 := hTB.out G V h; rw [ht0] at h2; exact h2
          have hTA2' : Hid (∀ G V, AL w o wr.heap.size G x y (q.left s).C pa pb q s sT V → Calls Try.prog 13 #[.pointer (some ⟨pa, 0, none⟩), .agg #[.string (mk x.name), .int .i64 x.kind, .int .u32 x.mode, .int .u32 x.uid, .int .u32 x.gid, .int .i64 x.time, .int .i32 x.nano, .string x.user, .string x.group, .string x.link, .int .i64 x.size, .int .u8 x.typ]] V fun r w' => r = .returned (.int .i64 0) ∧ Hid (AL w o wr.heap.size G x y (q.left s).C pa pb q sT sT w')) := fun G V h => by have h2 := hTA2.out G V h; rw [ht0] at h2; exact h2
          have hBA' := tHid (hBA.out ht0)
          clear hTA hTB hTA2 hBA hTS ht0
          go_wp2_with fail
          go_region
          all_goals go_wp2_with (first
            | (go_at_call 14; with_reducible refine hL5.out.mono ?_; rintro e w4 ⟨rfl, K4, hlt4, x0, x1, x2, x3, x4, x5, x6, x7, x8, x9, x10, x11⟩)
            | (go_at_call 13; with_reducible refine (hTA'.out w4.heap.size _ K4.out).mono ?_; rintro e w5 ⟨rfl, K5⟩))
          clear hL5 hTA' K4 hlt4 x0 x1 x2 x3 x4 x5 x6 x7 x8 x9 x10 x11 z0 z1 z2 z3 z4 z5 z6 z7 z8 z9 z10 z11 y0 y1 y2 y3 y4 y5 y6 y7 y8 y9 y10 y11
          generalize w4.heap.size = G at *
          have K5d : Hid (AL w o wr.heap.size G x y (q.left s).C pa pb q sT s w5.drew) := K5.out.nw (Fr.refl _ _).drew
          have HSYd := tHid (HSY.out G _ _ _ K5d.out)
          have HSY0 := tHid (HSY.out G _ _ _ K5.out)
          generalize hm1 : q.B - sT.b = m1 at *
          generalize hm2 : q.E - sT.n = m2 at *
          clear hm1 hm2
          generalize hl1 : q.B - s.b = l1 at *
          generalize hl2 : q.E - s.n = l2 at *
          clear hl1 hl2
          refine wp_region_held_drew (S := fun V => V.cell? ⟨wr.heap.size + 1, 0, none⟩ = some (.string (mk y.name)) ∧ V.cell? ⟨wr.heap.size + 1, 1, none⟩ = some (.int .i64 y.kind) ∧ V.cell? ⟨wr.heap.size + 1, 2, none⟩ = some (.int .u32 y.mode) ∧ V.cell? ⟨wr.heap.size + 1, 3, none⟩ = some (.int .u32 y.uid) ∧ V.cell? ⟨wr.heap.size + 1, 4, none⟩ = some (.int .u32 y.gid) ∧ V.cell? ⟨wr.heap.size + 1, 5, none⟩ = some (.int .i64 y.time) ∧ V.cell? ⟨wr.heap.size + 1, 6, none⟩ = some (.int .i32 y.nano) ∧ V.cell? ⟨wr.heap.size + 1, 7, none⟩ = some (.string y.user) ∧ V.cell? ⟨wr.heap.size + 1, 8, none⟩ = some (.string y.group) ∧ V.cell? ⟨wr.heap.size + 1, 9, none⟩ = some (.string y.link) ∧ V.cell? ⟨wr.heap.size + 1, 10, none⟩ = some (.int .i64 y.size) ∧ V.cell? ⟨wr.heap.size + 1, 11, none⟩ = some (.int .u8 y.typ) ∧ V.cell? ⟨G, 0, none⟩ = some (.int .i64 l1) ∧ V.cell? ⟨G, 1, none⟩ = some (.int .i64 l2) ∧ V.cell? ⟨G, 2, none⟩ = some (.int .i64 q.D)) (by kernel_rfl) HSY0.out (fun hHeld => ?_)
          refine wpAnyH_take (i := 0) (oi := { dst := some 78, op := Op.move (Operand.tmp 9), type := 29, pos := "law.go:144", after := #[], guard := none }) (v := ?_) rfl (by kernel_rfl) (by kernel_rfl) (by kernel_rfl) (fun _ _ _ h => h) (Or.inl ⟨by rfl, ?_⟩) (by assumption) ?_
          rotate_left
          · intro U hSw; obtain ⟨k0, k1, k2, k3, k4, k5, k6, k7, k8, k9, k10, k11, k12, k13, k14⟩ := hSw; (go_simp <;> with_reducible rfl)
          try simp only [Act.put, List.setIfInBounds_toArray, List.set_cons_zero, List.set_cons_succ]
          refine wpAnyH_take (i := 1) (oi := { dst := some 79, op := Op.load 38 (Operand.tmp 13), type := 38, pos := "law.go:144", after := #[], guard := none }) (v := ?_) rfl (by kernel_rfl) (by kernel_rfl) (by kernel_rfl) (fun _ _ _ h => h) (Or.inl ⟨by rfl, ?_⟩) (by assumption) ?_
          rotate_left
          · intro U hSw; obtain ⟨k0, k1, k2, k3, k4, k5, k6, k7, k8, k9, k10, k11, k12, k13, k14⟩ := hSw; (go_simp <;> with_reducible rfl)
          try simp only [Act.put, List.setIfInBounds_toArray, List.set_cons_zero, List.set_cons_succ]
          refine wpAnyH_take (i := 3) (oi := { dst := some 81, op := Op.move (Operand.tmp 15), type := 45, pos := "law.go:144", after := #[], guard := none }) (v := ?_) rfl (by kernel_rfl) (by kernel_rfl) (by kernel_rfl) (fun _ _ _ h => h) (Or.inl ⟨by rfl, ?_⟩) (by assumption) ?_
          rotate_left
          · intro U hSw; obtain ⟨k0, k1, k2, k3, k4, k5, k6, k7, k8, k9, k10, k11, k12, k13, k14⟩ := hSw; (go_simp <;> with_reducible rfl)
          try simp only [Act.put, List.setIfInBounds_toArray, List.set_cons_zero, List.set_cons_succ]
          refine wpAnyH_ready (rs := [2]) (by kernel_rfl) (by simp) ?_
          refine AllReadyH.cons (o := { dst := some 80, op := Op.call { callee := Callee.value (Operand.func 13), args := #[Operand.tmp 78, Operand.tmp 79], argTypes := #[29, 38] }, type := 45, pos := "law.go:144", after := #[{ on := 0, ground := Ground.data }, { on := 1, ground := Ground.data }], guard := none }) rfl (fun K hK => ?_) AllReadyH.nil
          go_simp
          go_at_call 13; with_reducible refine (hTB'.out G _ K5d.out).mono ?_; rintro e w6 ⟨rfl, K6⟩
          (try go_wp2_with fail)
          refine hK.out _ _ ?_ (fun hHeld2 => ?_)
          · exact HSY.out G _ _ _ K6.out
          clear hK K
          try simp only [Act.put, List.setIfInBounds_toArray, List.set_cons_zero, List.set_cons_succ]
          refine wpAnyH_take (i := 4) (oi := { dst := some 82, op := Op.binOp BinOp.neq 45 (Operand.tmp 80) (Operand.tmp 81) 45, type := 4, pos := "law.go:144", after := #[{ on := 2, ground := Ground.data }, { on := 3, ground := Ground.data }], guard := none }) (v := ?_) rfl (by kernel_rfl) (by kernel_rfl) (by kernel_rfl) (fun _ _ _ h => h) (Or.inl ⟨by rfl, ?_⟩) (by assumption) ?_
          rotate_left
          · intro U hSw; obtain ⟨k0, k1, k2, k3, k4, k5, k6, k7, k8, k9, k10, k11, k12, k13, k14⟩ := hSw; (go_simp <;> with_reducible rfl)
          try simp only [Act.put, List.setIfInBounds_toArray, List.set_cons_zero, List.set_cons_succ]
          refine wpAnyH_take (i := 5) (oi := { dst := some 83, op := Op.move (Operand.tmp 82), type := 4, pos := "law.go:144", after := #[{ on := 4, ground := Ground.data }, { on := 2, ground := Ground.chain }], guard := none }) (v := ?_) rfl (by kernel_rfl) (by kernel_rfl) (by kernel_rfl) (fun _ _ _ h => h) (Or.inl ⟨by rfl, ?_⟩) (by assumption) ?_
          rotate_left
          · intro U hSw; obtain ⟨k0, k1, k2, k3, k4, k5, k6, k7, k8, k9, k10, k11, k12, k13, k14⟩ := hSw; (go_simp <;> with_reducible rfl)
          try simp only [Act.put, List.setIfInBounds_toArray, List.set_cons_zero, List.set_cons_succ]
          refine wpAnyH_take (i := 6) (oi := { dst := some 84, op := Op.move (Operand.tmp 7), type := 29, pos := "law.go:144", after := #[{ on := 5, ground := Ground.guard }], guard := some (5, false) }) (v := ?_) rfl (by kernel_rfl) (by kernel_rfl) (by kernel_rfl) (fun _ _ _ h => h) (Or.inl ⟨by rfl, ?_⟩) (by assumption) ?_
          rotate_left
          · intro U hSw; obtain ⟨k0, k1, k2, k3, k4, k5, k6, k7, k8, k9, k10, k11, k12, k13, k14⟩ := hSw; (go_simp <;> with_reducible rfl)
          try simp only [Act.put, List.setIfInBounds_toArray, List.set_cons_zero, List.set_cons_succ]
          refine wpAnyH_take (i := 8) (oi := { dst := some 86, op := Op.move (Operand.tmp 9), type := 29, pos := "law.go:144", after := #[{ on := 5, ground := Ground.guard }], guard := some (5, false) }) (v := ?_) rfl (by kernel_rfl) (by kernel_rfl) (by kernel_rfl) (fun _ _ _ h => h) (Or.inl ⟨by rfl, ?_⟩) (by assumption) ?_
          rotate_left
          · intro U hSw; obtain ⟨k0, k1, k2, k3, k4, k5, k6, k7, k8, k9, k10, k11, k12, k13, k14⟩ := hSw; (go_simp <;> with_reducible rfl)
          try simp only [Act.put, List.setIfInBounds_toArray, List.set_cons_zero, List.set_cons_succ]
          refine wpAnyH_ready (rs := [7]) (by kernel_rfl) (by simp) ?_
          refine AllReadyH.cons (o := { dst := some 85, op := Op.call { callee := Callee.value (Operand.func 14), args := #[Operand.tmp 84], argTypes := #[29] }, type := 23, pos := "law.go:144", after := #[{ on := 6, ground := Ground.data }, { on := 5, ground := Ground.chain }, { on := 5, ground := Ground.guard }], guard := some (5, false) }) rfl (fun K hK => ?_) AllReadyH.nil
          go_simp
          go_at_call 14; with_reducible refine (hLA.out G _ K6.out).mono ?_; rintro e w7 ⟨rfl, K7⟩
          (try go_wp2_with fail)
          refine hK.out _ _ ?_ (fun hHeld3 => ?_)
          · exact HSY.out G _ _ _ K7.out
          clear hK K
          try simp only [Act.put, List.setIfInBounds_toArray, List.set_cons_zero, List.set_cons_succ]
          refine wpAnyH_ready (rs := [9]) (by kernel_rfl) (by simp) ?_
          refine AllReadyH.cons (o := { dst := some 87, op := Op.call { callee := Callee.value (Operand.func 14), args := #[Operand.tmp 86], argTypes := #[29] }, type := 23, pos := "law.go:144", after := #[{ on := 8, ground := Ground.data }, { on := 7, ground := Ground.chain }, { on := 5, ground := Ground.guard }], guard := some (5, false) }) rfl (fun K hK => ?_) AllReadyH.nil
          go_simp
          go_at_call 14; with_reducible refine (hLB.out G _ K7.out).mono ?_; rintro e w8 ⟨rfl, K8⟩
          (try go_wp2_with fail)
          refine hK.out _ _ ?_ (fun hHeld4 => ?_)
          · exact HSY.out G _ _ _ K8.out
          clear hK K
          try simp only [Act.put, List.setIfInBounds_toArray, List.set_cons_zero, List.set_cons_succ]
          refine wpAnyH_take (i := 10) (oi := { dst := some 88, op := Op.binOp BinOp.neq 23 (Operand.tmp 85) (Operand.tmp 87) 23, type := 4, pos := "law.go:144", after := #[{ on := 7, ground := Ground.data }, { on := 9, ground := Ground.data }, { on := 5, ground := Ground.guard }], guard := some (5, false) }) (v := ?_) rfl (by kernel_rfl) (by kernel_rfl) (by kernel_rfl) (fun _ _ _ h => h) (Or.inl ⟨by rfl, ?_⟩) (by assumption) ?_
          rotate_left
          · intro U hSw; obtain ⟨k0, k1, k2, k3, k4, k5, k6, k7, k8, k9, k10, k11, k12, k13, k14⟩ := hSw; (go_simp <;> with_reducible rfl)
          try simp only [Act.put, List.setIfInBounds_toArray, List.set_cons_zero, List.set_cons_succ]
          refine wpAnyH_take (i := 11) (oi := { dst := some 89, op := Op.pick (Operand.tmp 83) (Operand.const (Value.bool true)) (Operand.tmp 88), type := 4, pos := "law.go:144", after := #[{ on := 5, ground := Ground.data }, { on := 10, ground := Ground.data }], guard := none }) (v := ?_) rfl (by kernel_rfl) (by kernel_rfl) (by kernel_rfl) (fun _ _ _ h => h) (Or.inl ⟨by rfl, ?_⟩) (by assumption) ?_
          rotate_left
          · intro U hSw; obtain ⟨k0, k1, k2, k3, k4, k5, k6, k7, k8, k9, k10, k11, k12, k13, k14⟩ := hSw; (go_simp <;> with_reducible rfl)
          try simp only [Act.put, List.setIfInBounds_toArray, List.set_cons_zero, List.set_cons_succ]
          refine wpAnyH_take (i := 12) (oi := { dst := some 90, op := Op.move (Operand.tmp 89), type := 4, pos := "law.go:144", after := #[{ on := 11, ground := Ground.data }, { on := 9, ground := Ground.chain }], guard := none }) (v := ?_) rfl (by kernel_rfl) (by kernel_rfl) (by kernel_rfl) (fun _ _ _ h => h) (Or.inl ⟨by rfl, ?_⟩) (by assumption) ?_
          rotate_left
          · intro U hSw; obtain ⟨k0, k1, k2, k3, k4, k5, k6, k7, k8, k9, k10, k11, k12, k13, k14⟩ := hSw; (go_simp <;> with_reducible rfl)
          try simp only [Act.put, List.setIfInBounds_toArray, List.set_cons_zero, List.set_cons_succ]
          refine wpAnyH_take (i := 13) (oi := { dst := some 91, op := Op.move (Operand.tmp 15), type := 45, pos := "law.go:144", after := #[{ on := 12, ground := Ground.guard }], guard := some (12, false) }) (v := ?_) rfl (by kernel_rfl) (by kernel_rfl) (by kernel_rfl) (fun _ _ _ h => h) (Or.inl ⟨by rfl, ?_⟩) (by assumption) ?_
          rotate_left
          · intro U hSw; obtain ⟨k0, k1, k2, k3, k4, k5, k6, k7, k8, k9, k10, k11, k12, k13, k14⟩ := hSw; (go_simp <;> with_reducible rfl)
          try simp only [Act.put, List.setIfInBounds_toArray, List.set_cons_zero, List.set_cons_succ]
          refine wpAnyH_take (i := 14) (oi := { dst := some 92, op := Op.binOp BinOp.neq 45 (Operand.tmp 91) (Operand.const (Value.int IntKind.i64 0)) 45, type := 4, pos := "law.go:144", after := #[{ on := 13, ground := Ground.data }, { on := 12, ground := Ground.guard }], guard := some (12, false) }) (v := ?_) rfl (by kernel_rfl) (by kernel_rfl) (by kernel_rfl) (fun _ _ _ h => h) (Or.inl ⟨by rfl, ?_⟩) (by assumption) ?_
          rotate_left
          · intro U hSw; obtain ⟨k0, k1, k2, k3, k4, k5, k6, k7, k8, k9, k10, k11, k12, k13, k14⟩ := hSw; (go_simp <;> with_reducible rfl)
          try simp only [Act.put, List.setIfInBounds_toArray, List.set_cons_zero, List.set_cons_succ]
          refine wpAnyH_take (i := 15) (oi := { dst := some 93, op := Op.move (Operand.tmp 92), type := 4, pos := "law.go:144", after := #[{ on := 14, ground := Ground.data }, { on := 12, ground := Ground.chain }, { on := 12, ground := Ground.guard }], guard := some (12, false) }) (v := ?_) rfl (by kernel_rfl) (by kernel_rfl) (by kernel_rfl) (fun _ _ _ h => h) (Or.inl ⟨by rfl, ?_⟩) (by assumption) ?_
          rotate_left
          · intro U hSw; obtain ⟨k0, k1, k2, k3, k4, k5, k6, k7, k8, k9, k10, k11, k12, k13, k14⟩ := hSw; (go_simp <;> with_reducible rfl)
          try simp only [Act.put, List.setIfInBounds_toArray, List.set_cons_zero, List.set_cons_succ]
          refine wpAnyH_take (i := 16) (oi := { dst := some 94, op := Op.move (Operand.tmp 7), type := 29, pos := "law.go:144", after := #[{ on := 15, ground := Ground.guard }], guard := some (15, true) }) (v := undef) rfl (by kernel_rfl) (by kernel_rfl) (by kernel_rfl) (fun _ _ _ h => h) (Or.inr ⟨by rfl, rfl⟩) (by assumption) ?_
          try simp only [Act.put, List.setIfInBounds_toArray, List.set_cons_zero, List.set_cons_succ]
          refine wpAnyH_take (i := 18) (oi := { dst := some 96, op := Op.load 23 (Operand.tmp 14), type := 23, pos := "law.go:144", after := #[{ on := 15, ground := Ground.guard }], guard := some (15, true) }) (v := undef) rfl (by kernel_rfl) (by kernel_rfl) (by kernel_rfl) (fun _ _ _ h => h) (Or.inr ⟨by rfl, rfl⟩) (by assumption) ?_
          try simp only [Act.put, List.setIfInBounds_toArray, List.set_cons_zero, List.set_cons_succ]
          refine wpAnyH_ready (rs := [17]) (by kernel_rfl) (by simp) ?_
          refine AllReadyH.cons (o := { dst := some 95, op := Op.call { callee := Callee.value (Operand.func 14), args := #[Operand.tmp 94], argTypes := #[29] }, type := 23, pos := "law.go:144", after := #[{ on := 16, ground := Ground.data }, { on := 15, ground := Ground.chain }, { on := 15, ground := Ground.guard }], guard := some (15, true) }) rfl (fun K hK => ?_) AllReadyH.nil
          rw [if_neg (by intro hw; exact Bool.false_ne_true hw)]
          refine hK.out _ _ ?_ (fun hHeld5 => ?_)
          · exact HSY.out G _ _ _ K8.out
          clear hK K
          try simp only [Act.put, List.setIfInBounds_toArray, List.set_cons_zero, List.set_cons_succ]
          refine wpAnyH_take (i := 19) (oi := { dst := some 97, op := Op.binOp BinOp.neq 23 (Operand.tmp 95) (Operand.tmp 96) 23, type := 4, pos := "law.go:144", after := #[{ on := 17, ground := Ground.data }, { on := 18, ground := Ground.data }, { on := 15, ground := Ground.guard }], guard := some (15, true) }) (v := undef) rfl (by kernel_rfl) (by kernel_rfl) (by kernel_rfl) (fun _ _ _ h => h) (Or.inr ⟨by rfl, rfl⟩) (by assumption) ?_
          try simp only [Act.put, List.setIfInBounds_toArray, List.set_cons_zero, List.set_cons_succ]
          refine wpAnyH_take (i := 20) (oi := { dst := some 98, op := Op.pick (Operand.tmp 93) (Operand.tmp 97) (Operand.const (Value.bool false)), type := 4, pos := "law.go:144", after := #[{ on := 15, ground := Ground.data }, { on := 19, ground := Ground.data }, { on := 12, ground := Ground.guard }], guard := some (12, false) }) (v := ?_) rfl (by kernel_rfl) (by kernel_rfl) (by kernel_rfl) (fun _ _ _ h => h) (Or.inl ⟨by rfl, ?_⟩) (by assumption) ?_
          rotate_left
          · intro U hSw; obtain ⟨k0, k1, k2, k3, k4, k5, k6, k7, k8, k9, k10, k11, k12, k13, k14⟩ := hSw; (go_simp <;> with_reducible rfl)
          try simp only [Act.put, List.setIfInBounds_toArray, List.set_cons_zero, List.set_cons_succ]
          refine wpAnyH_take (i := 21) (oi := { dst := some 99, op := Op.pick (Operand.tmp 90) (Operand.const (Value.bool true)) (Operand.tmp 98), type := 4, pos := "law.go:144", after := #[{ on := 12, ground := Ground.data }, { on := 20, ground := Ground.data }], guard := none }) (v := ?_) rfl (by kernel_rfl) (by kernel_rfl) (by kernel_rfl) (fun _ _ _ h => h) (Or.inl ⟨by rfl, ?_⟩) (by assumption) ?_
          rotate_left
          · intro U hSw; obtain ⟨k0, k1, k2, k3, k4, k5, k6, k7, k8, k9, k10, k11, k12, k13, k14⟩ := hSw; (go_simp <;> with_reducible rfl)
          try simp only [Act.put, List.setIfInBounds_toArray, List.set_cons_zero, List.set_cons_succ]
          refine wpAnyH_done (by kernel_rfl) ?_ _
          all_goals go_wp2_with fail
          have K8d : Hid (AL w o wr.heap.size G x y (q.left s).C pa pb q sT sT w8.drew) := K8.out.nw (Fr.refl _ _).drew
          have HSXd := tHid (HSX.out G _ _ _ K8d.out)
          have HSX0 := tHid (HSX.out G _ _ _ K8.out)
          clear hHeld hHeld2 hHeld3 hHeld4 hHeld5
          go_region_held3 (fun V => V.cell? ⟨wr.heap.size, 0, none⟩ = some (.string (mk x.name)) ∧ V.cell? ⟨wr.heap.size, 1, none⟩ = some (.int .i64 x.kind) ∧ V.cell? ⟨wr.heap.size, 2, none⟩ = some (.int .u32 x.mode) ∧ V.cell? ⟨wr.heap.size, 3, none⟩ = some (.int .u32 x.uid) ∧ V.cell? ⟨wr.heap.size, 4, none⟩ = some (.int .u32 x.gid) ∧ V.cell? ⟨wr.heap.size, 5, none⟩ = some (.int .i64 x.time) ∧ V.cell? ⟨wr.heap.size, 6, none⟩ = some (.int .i32 x.nano) ∧ V.cell? ⟨wr.heap.size, 7, none⟩ = some (.string x.user) ∧ V.cell? ⟨wr.heap.size, 8, none⟩ = some (.string x.group) ∧ V.cell? ⟨wr.heap.size, 9, none⟩ = some (.string x.link) ∧ V.cell? ⟨wr.heap.size, 10, none⟩ = some (.int .i64 x.size) ∧ V.cell? ⟨wr.heap.size, 11, none⟩ = some (.int .u8 x.typ) ∧ V.cell? ⟨G, 0, none⟩ = some (.int .i64 l1) ∧ V.cell? ⟨G, 1, none⟩ = some (.int .i64 l2) ∧ V.cell? ⟨G, 2, none⟩ = some (.int .i64 q.D))
            (first | exact HSX.out G _ _ _ K12.out | exact HSX.out G _ _ _ K11.out | exact HSX.out G _ _ _ K10.out | exact HSXd.out | exact HSX0.out)
            (first
              | (go_at_call 18; with_reducible refine (hBA'.out G _ ?_).mono ?_; (first | exact K8.out | exact K8d.out); rintro e w10 ⟨rfl, K10⟩)
              | (go_at_call 14; with_reducible refine (hLA2.out G _ K10.out).mono ?_; rintro e w11 ⟨rfl, K11⟩)
              | (go_at_call 13; with_reducible refine (hTA2'.out G _ K11.out).mono ?_; rintro e w12 ⟨rfl, K12⟩))
          all_goals go_wp2_with fail
          go_roundg (N - (I + 1))
          case measure => omega
          case rel => exact ⟨I + 1, _, by omega, by omega, by first | rfl | (congr 1), hNext.out G _ K12.out, hNX.out⟩
        · obtain rfl : sT = s := hTS.out ht0
          have hd : ((t : Int) != 0) = true := by simp; omega
          have hd2 : ((t : Int) == 0) = false := by rw [beq_eq_false_iff_ne]; omega
          clear hTA2 hBA hTS hLA2
          go_wp2_with fail
          go_region
          all_goals go_wp2_with (first
            | (go_at_call 14; with_reducible refine hL5.out.mono ?_; rintro e w4 ⟨rfl, K4, hlt4, x0, x1, x2, x3, x4, x5, x6, x7, x8, x9, x10, x11⟩)
            | (go_at_call 13; with_reducible refine (hTA.out w4.heap.size _ K4.out).mono ?_; rintro e w5 ⟨rfl, K5⟩))
          clear hL5 hTA K4 hlt4 x0 x1 x2 x3 x4 x5 x6 x7 x8 x9 x10 x11 z0 z1 z2 z3 z4 z5 z6 z7 z8 z9 z10 z11 y0 y1 y2 y3 y4 y5 y6 y7 y8 y9 y10 y11
          generalize w4.heap.size = G at *
          have K5d : Hid (AL w o wr.heap.size G x y (q.left sT).C pa pb q sT sT w5.drew) := K5.out.nw (Fr.refl _ _).drew
          have HSYd := tHid (HSY.out G _ _ _ K5d.out)
          have HSY0 := tHid (HSY.out G _ _ _ K5.out)
          generalize hl1 : q.B - sT.b = l1 at *
          generalize hl2 : q.E - sT.n = l2 at *
          clear hl1 hl2
          go_region_held3 (fun V => V.cell? ⟨wr.heap.size + 1, 0, none⟩ = some (.string (mk y.name)) ∧ V.cell? ⟨wr.heap.size + 1, 1, none⟩ = some (.int .i64 y.kind) ∧ V.cell? ⟨wr.heap.size + 1, 2, none⟩ = some (.int .u32 y.mode) ∧ V.cell? ⟨wr.heap.size + 1, 3, none⟩ = some (.int .u32 y.uid) ∧ V.cell? ⟨wr.heap.size + 1, 4, none⟩ = some (.int .u32 y.gid) ∧ V.cell? ⟨wr.heap.size + 1, 5, none⟩ = some (.int .i64 y.time) ∧ V.cell? ⟨wr.heap.size + 1, 6, none⟩ = some (.int .i32 y.nano) ∧ V.cell? ⟨wr.heap.size + 1, 7, none⟩ = some (.string y.user) ∧ V.cell? ⟨wr.heap.size + 1, 8, none⟩ = some (.string y.group) ∧ V.cell? ⟨wr.heap.size + 1, 9, none⟩ = some (.string y.link) ∧ V.cell? ⟨wr.heap.size + 1, 10, none⟩ = some (.int .i64 y.size) ∧ V.cell? ⟨wr.heap.size + 1, 11, none⟩ = some (.int .u8 y.typ) ∧ V.cell? ⟨G, 0, none⟩ = some (.int .i64 l1) ∧ V.cell? ⟨G, 1, none⟩ = some (.int .i64 l2) ∧ V.cell? ⟨G, 2, none⟩ = some (.int .i64 q.D))
            (first | exact HSY.out G _ _ _ K9.out | exact HSY.out G _ _ _ K8.out | exact HSY.out G _ _ _ K7.out | exact HSY.out G _ _ _ K6.out | exact HSYd.out | exact HSY0.out)
            (first
              | (go_at_call 13; with_reducible refine (hTB.out G _ ?_).mono ?_; (first | exact K5.out | exact K5d.out); rintro e w6 ⟨rfl, K6⟩)
              | (go_at_call 14; with_reducible refine (hLA.out G _ K8.out).mono ?_; rintro e w9 ⟨rfl, K9⟩)
              | (go_at_call 14; with_reducible refine (hLB.out G _ K7.out).mono ?_; rintro e w8 ⟨rfl, K8⟩)
              | (go_at_call 14; with_reducible refine (hLA.out G _ K6.out).mono ?_; rintro e w7 ⟨rfl, K7⟩))
          all_goals go_wp2_with fail
          go_quiet (fail)
          go_wp2_with fail
          go_roundg (N - (I + 1))
          case measure => omega
          case rel => exact ⟨I + 1, _, by omega, by omega, by first | rfl | (congr 1), hNext.out G _ (K9.out.nw ((Fr.refl _ _).drewN _)), hNX.out⟩
      · have hdk : (x.kind == 2) = false := by rw [beq_eq_false_iff_ne]; exact hk
        have HYC := tHid (HY3.out hk)
        clear hk HY2 HY3
        have hL5 : Hid (Calls Try.prog 14 #[.pointer (some ⟨pa, 0, none⟩)] (((wr.alloc (.cells #[.string (mk x.name), .int .i64 x.kind, .int .u32 x.mode, .int .u32 x.uid, .int .u32 x.gid, .int .i64 x.time, .int .i32 x.nano, .string x.user, .string x.group, .string x.link, .int .i64 x.size, .int .u8 x.typ] 38)).alloc (.cells #[.string (mk x.name), .int .i64 x.kind, .int .u32 o.mode, .int .u32 o.uid, .int .u32 o.gid, .int .i64 o.time, .int .i32 o.nano, .string o.user, .string o.group, .string o.link, .int .i64 o.size, .int .u8 o.typ] 38)).drew) fun r w' => r = .returned (.agg #[.int .i64 (q.B - s.b), .int .i64 (q.E - s.n), .int .i64 q.D]) ∧ Hid (AL w o wr.heap.size w'.heap.size x y (q.left s).C pa pb q s s (w'.alloc (.cells #[.int .i64 (q.B - s.b), .int .i64 (q.E - s.n), .int .i64 q.D] 23))) ∧ wr.heap.size < w'.heap.size ∧ w'.cell? ⟨wr.heap.size, 0, none⟩ = some (.string (mk x.name)) ∧ w'.cell? ⟨wr.heap.size, 1, none⟩ = some (.int .i64 x.kind) ∧ w'.cell? ⟨wr.heap.size, 2, none⟩ = some (.int .u32 x.mode) ∧ w'.cell? ⟨wr.heap.size, 3, none⟩ = some (.int .u32 x.uid) ∧ w'.cell? ⟨wr.heap.size, 4, none⟩ = some (.int .u32 x.gid) ∧ w'.cell? ⟨wr.heap.size, 5, none⟩ = some (.int .i64 x.time) ∧ w'.cell? ⟨wr.heap.size, 6, none⟩ = some (.int .i32 x.nano) ∧ w'.cell? ⟨wr.heap.size, 7, none⟩ = some (.string x.user) ∧ w'.cell? ⟨wr.heap.size, 8, none⟩ = some (.string x.group) ∧ w'.cell? ⟨wr.heap.size, 9, none⟩ = some (.string x.link) ∧ w'.cell? ⟨wr.heap.size, 10, none⟩ = some (.int .i64 x.size) ∧ w'.cell? ⟨wr.heap.size, 11, none⟩ = some (.int .u8 x.typ)) := hL0.out _ ((((Fr.refl _ _).alloc _).alloc _).drew) (two_rows wr (.cells x.C 38) _).1 (by rw [HYC.out]; exact (two_rows _ _ _).2)
        clear hL0 HYC
        by_cases ht0 : t = 0
        · have hTA' : Hid (∀ G V, AL w o wr.heap.size G x y (q.left s).C pa pb q s s V → Calls Try.prog 13 #[.pointer (some ⟨pa, 0, none⟩), .agg #[.string (mk x.name), .int .i64 x.kind, .int .u32 x.mode, .int .u32 x.uid, .int .u32 x.gid, .int .i64 x.time, .int .i32 x.nano, .string x.user, .string x.group, .string x.link, .int .i64 x.size, .int .u8 x.typ]] V fun r w' => r = .returned (.int .i64 0) ∧ Hid (AL w o wr.heap.size G x y (q.left s).C pa pb q sT s w')) := fun G V h => by have h2 := hTA.out G V h; rw [ht0] at h2; exact h2
          have hTB' : Hid (∀ G V, AL w o wr.heap.size G x y (q.left s).C pa pb q sT s V → Calls Try.prog 13 #[.pointer (some ⟨pb, 0, none⟩), .agg #[.string (mk y.name), .int .i64 y.kind, .int .u32 y.mode, .int .u32 y.uid, .int .u32 y.gid, .int .i64 y.time, .int .i32 y.nano, .string y.user, .string y.group, .string y.link, .int .i64 y.size, .int .u8 y.typ]] V fun r w' => r = .returned (.int .i64 0) ∧ Hid (AL w o wr.heap.size G x y (q.left s).C pa pb q sT sT w')) := fun G V h => by have h2 := hTB.out G V h; rw [ht0] at h2; exact h2
          have hTA2' : Hid (∀ G V, AL w o wr.heap.size G x y (q.left s).C pa pb q s sT V → Calls Try.prog 13 #[.pointer (some ⟨pa, 0, none⟩), .agg #[.string (mk x.name), .int .i64 x.kind, .int .u32 x.mode, .int .u32 x.uid, .int .u32 x.gid, .int .i64 x.time, .int .i32 x.nano, .string x.user, .string x.group, .string x.link, .int .i64 x.size, .int .u8 x.typ]] V fun r w' => r = .returned (.int .i64 0) ∧ Hid (AL w o wr.heap.size G x y (q.left s).C pa pb q sT sT w')) := fun G V h => by have h2 := hTA2.out G V h; rw [ht0] at h2; exact h2
          have hBA' := tHid (hBA.out ht0)
          clear hTA hTB hTA2 hBA hTS ht0
          go_wp2_with fail
          go_region
          all_goals go_wp2_with (first
            | (go_at_call 14; with_reducible refine hL5.out.mono ?_; rintro e w4 ⟨rfl, K4, hlt4, x0, x1, x2, x3, x4, x5, x6, x7, x8, x9, x10, x11⟩)
            | (go_at_call 13; with_reducible refine (hTA'.out w4.heap.size _ K4.out).mono ?_; rintro e w5 ⟨rfl, K5⟩))
          clear hL5 hTA' K4 hlt4 x0 x1 x2 x3 x4 x5 x6 x7 x8 x9 x10 x11 z0 z1 z2 z3 z4 z5 z6 z7 z8 z9 z10 z11 y0 y1 y2 y3 y4 y5 y6 y7 y8 y9 y10 y11
          generalize w4.heap.size = G at *
          have K5d : Hid (AL w o wr.heap.size G x y (q.left s).C pa pb q sT s w5.drew) := K5.out.nw (Fr.refl _ _).drew
          have HSYd := tHid (HSY.out G _ _ _ K5d.out)
          have HSY0 := tHid (HSY.out G _ _ _ K5.out)
          generalize hm1 : q.B - sT.b = m1 at *
          generalize hm2 : q.E - sT.n = m2 at *
          clear hm1 hm2
          generalize hl1 : q.B - s.b = l1 at *
          generalize hl2 : q.E - s.n = l2 at *
          clear hl1 hl2
          refine wp_region_held_drew (S := fun V => V.cell? ⟨wr.heap.size + 1, 0, none⟩ = some (.string (mk y.name)) ∧ V.cell? ⟨wr.heap.size + 1, 1, none⟩ = some (.int .i64 y.kind) ∧ V.cell? ⟨wr.heap.size + 1, 2, none⟩ = some (.int .u32 y.mode) ∧ V.cell? ⟨wr.heap.size + 1, 3, none⟩ = some (.int .u32 y.uid) ∧ V.cell? ⟨wr.heap.size + 1, 4, none⟩ = some (.int .u32 y.gid) ∧ V.cell? ⟨wr.heap.size + 1, 5, none⟩ = some (.int .i64 y.time) ∧ V.cell? ⟨wr.heap.size + 1, 6, none⟩ = some (.int .i32 y.nano) ∧ V.cell? ⟨wr.heap.size + 1, 7, none⟩ = some (.string y.user) ∧ V.cell? ⟨wr.heap.size + 1, 8, none⟩ = some (.string y.group) ∧ V.cell? ⟨wr.heap.size + 1, 9, none⟩ = some (.string y.link) ∧ V.cell? ⟨wr.heap.size + 1, 10, none⟩ = some (.int .i64 y.size) ∧ V.cell? ⟨wr.heap.size + 1, 11, none⟩ = some (.int .u8 y.typ) ∧ V.cell? ⟨G, 0, none⟩ = some (.int .i64 l1) ∧ V.cell? ⟨G, 1, none⟩ = some (.int .i64 l2) ∧ V.cell? ⟨G, 2, none⟩ = some (.int .i64 q.D)) (by kernel_rfl) HSY0.out (fun hHeld => ?_)
          refine wpAnyH_take (i := 0) (oi := { dst := some 78, op := Op.move (Operand.tmp 9), type := 29, pos := "law.go:144", after := #[], guard := none }) (v := ?_) rfl (by kernel_rfl) (by kernel_rfl) (by kernel_rfl) (fun _ _ _ h => h) (Or.inl ⟨by rfl, ?_⟩) (by assumption) ?_
          rotate_left
          · intro U hSw; obtain ⟨k0, k1, k2, k3, k4, k5, k6, k7, k8, k9, k10, k11, k12, k13, k14⟩ := hSw; (go_simp <;> with_reducible rfl)
          try simp only [Act.put, List.setIfInBounds_toArray, List.set_cons_zero, List.set_cons_succ]
          refine wpAnyH_take (i := 1) (oi := { dst := some 79, op := Op.load 38 (Operand.tmp 13), type := 38, pos := "law.go:144", after := #[], guard := none }) (v := ?_) rfl (by kernel_rfl) (by kernel_rfl) (by kernel_rfl) (fun _ _ _ h => h) (Or.inl ⟨by rfl, ?_⟩) (by assumption) ?_
          rotate_left
          · intro U hSw; obtain ⟨k0, k1, k2, k3, k4, k5, k6, k7, k8, k9, k10, k11, k12, k13, k14⟩ := hSw; (go_simp <;> with_reducible rfl)
          try simp only [Act.put, List.setIfInBounds_toArray, List.set_cons_zero, List.set_cons_succ]
          refine wpAnyH_take (i := 3) (oi := { dst := some 81, op := Op.move (Operand.tmp 15), type := 45, pos := "law.go:144", after := #[], guard := none }) (v := ?_) rfl (by kernel_rfl) (by kernel_rfl) (by kernel_rfl) (fun _ _ _ h => h) (Or.inl ⟨by rfl, ?_⟩) (by assumption) ?_
          rotate_left
          · intro U hSw; obtain ⟨k0, k1, k2, k3, k4, k5, k6, k7, k8, k9, k10, k11, k12, k13, k14⟩ := hSw; (go_simp <;> with_reducible rfl)
          try simp only [Act.put, List.setIfInBounds_toArray, List.set_cons_zero, List.set_cons_succ]
          refine wpAnyH_ready (rs := [2]) (by kernel_rfl) (by simp) ?_
          refine AllReadyH.cons (o := { dst := some 80, op := Op.call { callee := Callee.value (Operand.func 13), args := #[Operand.tmp 78, Operand.tmp 79], argTypes := #[29, 38] }, type := 45, pos := "law.go:144", after := #[{ on := 0, ground := Ground.data }, { on := 1, ground := Ground.data }], guard := none }) rfl (fun K hK => ?_) AllReadyH.nil
          go_simp
          go_at_call 13; with_reducible refine (hTB'.out G _ K5d.out).mono ?_; rintro e w6 ⟨rfl, K6⟩
          (try go_wp2_with fail)
          refine hK.out _ _ ?_ (fun hHeld2 => ?_)
          · exact HSY.out G _ _ _ K6.out
          clear hK K
          try simp only [Act.put, List.setIfInBounds_toArray, List.set_cons_zero, List.set_cons_succ]
          refine wpAnyH_take (i := 4) (oi := { dst := some 82, op := Op.binOp BinOp.neq 45 (Operand.tmp 80) (Operand.tmp 81) 45, type := 4, pos := "law.go:144", after := #[{ on := 2, ground := Ground.data }, { on := 3, ground := Ground.data }], guard := none }) (v := ?_) rfl (by kernel_rfl) (by kernel_rfl) (by kernel_rfl) (fun _ _ _ h => h) (Or.inl ⟨by rfl, ?_⟩) (by assumption) ?_
          rotate_left
          · intro U hSw; obtain ⟨k0, k1, k2, k3, k4, k5, k6, k7, k8, k9, k10, k11, k12, k13, k14⟩ := hSw; (go_simp <;> with_reducible rfl)
          try simp only [Act.put, List.setIfInBounds_toArray, List.set_cons_zero, List.set_cons_succ]
          refine wpAnyH_take (i := 5) (oi := { dst := some 83, op := Op.move (Operand.tmp 82), type := 4, pos := "law.go:144", after := #[{ on := 4, ground := Ground.data }, { on := 2, ground := Ground.chain }], guard := none }) (v := ?_) rfl (by kernel_rfl) (by kernel_rfl) (by kernel_rfl) (fun _ _ _ h => h) (Or.inl ⟨by rfl, ?_⟩) (by assumption) ?_
          rotate_left
          · intro U hSw; obtain ⟨k0, k1, k2, k3, k4, k5, k6, k7, k8, k9, k10, k11, k12, k13, k14⟩ := hSw; (go_simp <;> with_reducible rfl)
          try simp only [Act.put, List.setIfInBounds_toArray, List.set_cons_zero, List.set_cons_succ]
          refine wpAnyH_take (i := 6) (oi := { dst := some 84, op := Op.move (Operand.tmp 7), type := 29, pos := "law.go:144", after := #[{ on := 5, ground := Ground.guard }], guard := some (5, false) }) (v := ?_) rfl (by kernel_rfl) (by kernel_rfl) (by kernel_rfl) (fun _ _ _ h => h) (Or.inl ⟨by rfl, ?_⟩) (by assumption) ?_
          rotate_left
          · intro U hSw; obtain ⟨k0, k1, k2, k3, k4, k5, k6, k7, k8, k9, k10, k11, k12, k13, k14⟩ := hSw; (go_simp <;> with_reducible rfl)
          try simp only [Act.put, List.setIfInBounds_toArray, List.set_cons_zero, List.set_cons_succ]
          refine wpAnyH_take (i := 8) (oi := { dst := some 86, op := Op.move (Operand.tmp 9), type := 29, pos := "law.go:144", after := #[{ on := 5, ground := Ground.guard }], guard := some (5, false) }) (v := ?_) rfl (by kernel_rfl) (by kernel_rfl) (by kernel_rfl) (fun _ _ _ h => h) (Or.inl ⟨by rfl, ?_⟩) (by assumption) ?_
          rotate_left
          · intro U hSw; obtain ⟨k0, k1, k2, k3, k4, k5, k6, k7, k8, k9, k10, k11, k12, k13, k14⟩ := hSw; (go_simp <;> with_reducible rfl)
          try simp only [Act.put, List.setIfInBounds_toArray, List.set_cons_zero, List.set_cons_succ]
          refine wpAnyH_ready (rs := [7]) (by kernel_rfl) (by simp) ?_
          refine AllReadyH.cons (o := { dst := some 85, op := Op.call { callee := Callee.value (Operand.func 14), args := #[Operand.tmp 84], argTypes := #[29] }, type := 23, pos := "law.go:144", after := #[{ on := 6, ground := Ground.data }, { on := 5, ground := Ground.chain }, { on := 5, ground := Ground.guard }], guard := some (5, false) }) rfl (fun K hK => ?_) AllReadyH.nil
          go_simp
          go_at_call 14; with_reducible refine (hLA.out G _ K6.out).mono ?_; rintro e w7 ⟨rfl, K7⟩
          (try go_wp2_with fail)
          refine hK.out _ _ ?_ (fun hHeld3 => ?_)
          · exact HSY.out G _ _ _ K7.out
          clear hK K
          try simp only [Act.put, List.setIfInBounds_toArray, List.set_cons_zero, List.set_cons_succ]
          refine wpAnyH_ready (rs := [9]) (by kernel_rfl) (by simp) ?_
          refine AllReadyH.cons (o := { dst := some 87, op := Op.call { callee := Callee.value (Operand.func 14), args := #[Operand.tmp 86], argTypes := #[29] }, type := 23, pos := "law.go:144", after := #[{ on := 8, ground := Ground.data }, { on := 7, ground := Ground.chain }, { on := 5, ground := Ground.guard }], guard := some (5, false) }) rfl (fun K hK => ?_) AllReadyH.nil
          go_simp
          go_at_call 14; with_reducible refine (hLB.out G _ K7.out).mono ?_; rintro e w8 ⟨rfl, K8⟩
          (try go_wp2_with fail)
          refine hK.out _ _ ?_ (fun hHeld4 => ?_)
          · exact HSY.out G _ _ _ K8.out
          clear hK K
          try simp only [Act.put, List.setIfInBounds_toArray, List.set_cons_zero, List.set_cons_succ]
          refine wpAnyH_take (i := 10) (oi := { dst := some 88, op := Op.binOp BinOp.neq 23 (Operand.tmp 85) (Operand.tmp 87) 23, type := 4, pos := "law.go:144", after := #[{ on := 7, ground := Ground.data }, { on := 9, ground := Ground.data }, { on := 5, ground := Ground.guard }], guard := some (5, false) }) (v := ?_) rfl (by kernel_rfl) (by kernel_rfl) (by kernel_rfl) (fun _ _ _ h => h) (Or.inl ⟨by rfl, ?_⟩) (by assumption) ?_
          rotate_left
          · intro U hSw; obtain ⟨k0, k1, k2, k3, k4, k5, k6, k7, k8, k9, k10, k11, k12, k13, k14⟩ := hSw; (go_simp <;> with_reducible rfl)
          try simp only [Act.put, List.setIfInBounds_toArray, List.set_cons_zero, List.set_cons_succ]
          refine wpAnyH_take (i := 11) (oi := { dst := some 89, op := Op.pick (Operand.tmp 83) (Operand.const (Value.bool true)) (Operand.tmp 88), type := 4, pos := "law.go:144", after := #[{ on := 5, ground := Ground.data }, { on := 10, ground := Ground.data }], guard := none }) (v := ?_) rfl (by kernel_rfl) (by kernel_rfl) (by kernel_rfl) (fun _ _ _ h => h) (Or.inl ⟨by rfl, ?_⟩) (by assumption) ?_
          rotate_left
          · intro U hSw; obtain ⟨k0, k1, k2, k3, k4, k5, k6, k7, k8, k9, k10, k11, k12, k13, k14⟩ := hSw; (go_simp <;> with_reducible rfl)
          try simp only [Act.put, List.setIfInBounds_toArray, List.set_cons_zero, List.set_cons_succ]
          refine wpAnyH_take (i := 12) (oi := { dst := some 90, op := Op.move (Operand.tmp 89), type := 4, pos := "law.go:144", after := #[{ on := 11, ground := Ground.data }, { on := 9, ground := Ground.chain }], guard := none }) (v := ?_) rfl (by kernel_rfl) (by kernel_rfl) (by kernel_rfl) (fun _ _ _ h => h) (Or.inl ⟨by rfl, ?_⟩) (by assumption) ?_
          rotate_left
          · intro U hSw; obtain ⟨k0, k1, k2, k3, k4, k5, k6, k7, k8, k9, k10, k11, k12, k13, k14⟩ := hSw; (go_simp <;> with_reducible rfl)
          try simp only [Act.put, List.setIfInBounds_toArray, List.set_cons_zero, List.set_cons_succ]
          refine wpAnyH_take (i := 13) (oi := { dst := some 91, op := Op.move (Operand.tmp 15), type := 45, pos := "law.go:144", after := #[{ on := 12, ground := Ground.guard }], guard := some (12, false) }) (v := ?_) rfl (by kernel_rfl) (by kernel_rfl) (by kernel_rfl) (fun _ _ _ h => h) (Or.inl ⟨by rfl, ?_⟩) (by assumption) ?_
          rotate_left
          · intro U hSw; obtain ⟨k0, k1, k2, k3, k4, k5, k6, k7, k8, k9, k10, k11, k12, k13, k14⟩ := hSw; (go_simp <;> with_reducible rfl)
          try simp only [Act.put, List.setIfInBounds_toArray, List.set_cons_zero, List.set_cons_succ]
          refine wpAnyH_take (i := 14) (oi := { dst := some 92, op := Op.binOp BinOp.neq 45 (Operand.tmp 91) (Operand.const (Value.int IntKind.i64 0)) 45, type := 4, pos := "law.go:144", after := #[{ on := 13, ground := Ground.data }, { on := 12, ground := Ground.guard }], guard := some (12, false) }) (v := ?_) rfl (by kernel_rfl) (by kernel_rfl) (by kernel_rfl) (fun _ _ _ h => h) (Or.inl ⟨by rfl, ?_⟩) (by assumption) ?_
          rotate_left
          · intro U hSw; obtain ⟨k0, k1, k2, k3, k4, k5, k6, k7, k8, k9, k10, k11, k12, k13, k14⟩ := hSw; (go_simp <;> with_reducible rfl)
          try simp only [Act.put, List.setIfInBounds_toArray, List.set_cons_zero, List.set_cons_succ]
          refine wpAnyH_take (i := 15) (oi := { dst := some 93, op := Op.move (Operand.tmp 92), type := 4, pos := "law.go:144", after := #[{ on := 14, ground := Ground.data }, { on := 12, ground := Ground.chain }, { on := 12, ground := Ground.guard }], guard := some (12, false) }) (v := ?_) rfl (by kernel_rfl) (by kernel_rfl) (by kernel_rfl) (fun _ _ _ h => h) (Or.inl ⟨by rfl, ?_⟩) (by assumption) ?_
          rotate_left
          · intro U hSw; obtain ⟨k0, k1, k2, k3, k4, k5, k6, k7, k8, k9, k10, k11, k12, k13, k14⟩ := hSw; (go_simp <;> with_reducible rfl)
          try simp only [Act.put, List.setIfInBounds_toArray, List.set_cons_zero, List.set_cons_succ]
          refine wpAnyH_take (i := 16) (oi := { dst := some 94, op := Op.move (Operand.tmp 7), type := 29, pos := "law.go:144", after := #[{ on := 15, ground := Ground.guard }], guard := some (15, true) }) (v := undef) rfl (by kernel_rfl) (by kernel_rfl) (by kernel_rfl) (fun _ _ _ h => h) (Or.inr ⟨by rfl, rfl⟩) (by assumption) ?_
          try simp only [Act.put, List.setIfInBounds_toArray, List.set_cons_zero, List.set_cons_succ]
          refine wpAnyH_take (i := 18) (oi := { dst := some 96, op := Op.load 23 (Operand.tmp 14), type := 23, pos := "law.go:144", after := #[{ on := 15, ground := Ground.guard }], guard := some (15, true) }) (v := undef) rfl (by kernel_rfl) (by kernel_rfl) (by kernel_rfl) (fun _ _ _ h => h) (Or.inr ⟨by rfl, rfl⟩) (by assumption) ?_
          try simp only [Act.put, List.setIfInBounds_toArray, List.set_cons_zero, List.set_cons_succ]
          refine wpAnyH_ready (rs := [17]) (by kernel_rfl) (by simp) ?_
          refine AllReadyH.cons (o := { dst := some 95, op := Op.call { callee := Callee.value (Operand.func 14), args := #[Operand.tmp 94], argTypes := #[29] }, type := 23, pos := "law.go:144", after := #[{ on := 16, ground := Ground.data }, { on := 15, ground := Ground.chain }, { on := 15, ground := Ground.guard }], guard := some (15, true) }) rfl (fun K hK => ?_) AllReadyH.nil
          rw [if_neg (by intro hw; exact Bool.false_ne_true hw)]
          refine hK.out _ _ ?_ (fun hHeld5 => ?_)
          · exact HSY.out G _ _ _ K8.out
          clear hK K
          try simp only [Act.put, List.setIfInBounds_toArray, List.set_cons_zero, List.set_cons_succ]
          refine wpAnyH_take (i := 19) (oi := { dst := some 97, op := Op.binOp BinOp.neq 23 (Operand.tmp 95) (Operand.tmp 96) 23, type := 4, pos := "law.go:144", after := #[{ on := 17, ground := Ground.data }, { on := 18, ground := Ground.data }, { on := 15, ground := Ground.guard }], guard := some (15, true) }) (v := undef) rfl (by kernel_rfl) (by kernel_rfl) (by kernel_rfl) (fun _ _ _ h => h) (Or.inr ⟨by rfl, rfl⟩) (by assumption) ?_
          try simp only [Act.put, List.setIfInBounds_toArray, List.set_cons_zero, List.set_cons_succ]
          refine wpAnyH_take (i := 20) (oi := { dst := some 98, op := Op.pick (Operand.tmp 93) (Operand.tmp 97) (Operand.const (Value.bool false)), type := 4, pos := "law.go:144", after := #[{ on := 15, ground := Ground.data }, { on := 19, ground := Ground.data }, { on := 12, ground := Ground.guard }], guard := some (12, false) }) (v := ?_) rfl (by kernel_rfl) (by kernel_rfl) (by kernel_rfl) (fun _ _ _ h => h) (Or.inl ⟨by rfl, ?_⟩) (by assumption) ?_
          rotate_left
          · intro U hSw; obtain ⟨k0, k1, k2, k3, k4, k5, k6, k7, k8, k9, k10, k11, k12, k13, k14⟩ := hSw; (go_simp <;> with_reducible rfl)
          try simp only [Act.put, List.setIfInBounds_toArray, List.set_cons_zero, List.set_cons_succ]
          refine wpAnyH_take (i := 21) (oi := { dst := some 99, op := Op.pick (Operand.tmp 90) (Operand.const (Value.bool true)) (Operand.tmp 98), type := 4, pos := "law.go:144", after := #[{ on := 12, ground := Ground.data }, { on := 20, ground := Ground.data }], guard := none }) (v := ?_) rfl (by kernel_rfl) (by kernel_rfl) (by kernel_rfl) (fun _ _ _ h => h) (Or.inl ⟨by rfl, ?_⟩) (by assumption) ?_
          rotate_left
          · intro U hSw; obtain ⟨k0, k1, k2, k3, k4, k5, k6, k7, k8, k9, k10, k11, k12, k13, k14⟩ := hSw; (go_simp <;> with_reducible rfl)
          try simp only [Act.put, List.setIfInBounds_toArray, List.set_cons_zero, List.set_cons_succ]
          refine wpAnyH_done (by kernel_rfl) ?_ _
          all_goals go_wp2_with fail
          have K8d : Hid (AL w o wr.heap.size G x y (q.left s).C pa pb q sT sT w8.drew) := K8.out.nw (Fr.refl _ _).drew
          have HSXd := tHid (HSX.out G _ _ _ K8d.out)
          have HSX0 := tHid (HSX.out G _ _ _ K8.out)
          clear hHeld hHeld2 hHeld3 hHeld4 hHeld5
          go_region_held3 (fun V => V.cell? ⟨wr.heap.size, 0, none⟩ = some (.string (mk x.name)) ∧ V.cell? ⟨wr.heap.size, 1, none⟩ = some (.int .i64 x.kind) ∧ V.cell? ⟨wr.heap.size, 2, none⟩ = some (.int .u32 x.mode) ∧ V.cell? ⟨wr.heap.size, 3, none⟩ = some (.int .u32 x.uid) ∧ V.cell? ⟨wr.heap.size, 4, none⟩ = some (.int .u32 x.gid) ∧ V.cell? ⟨wr.heap.size, 5, none⟩ = some (.int .i64 x.time) ∧ V.cell? ⟨wr.heap.size, 6, none⟩ = some (.int .i32 x.nano) ∧ V.cell? ⟨wr.heap.size, 7, none⟩ = some (.string x.user) ∧ V.cell? ⟨wr.heap.size, 8, none⟩ = some (.string x.group) ∧ V.cell? ⟨wr.heap.size, 9, none⟩ = some (.string x.link) ∧ V.cell? ⟨wr.heap.size, 10, none⟩ = some (.int .i64 x.size) ∧ V.cell? ⟨wr.heap.size, 11, none⟩ = some (.int .u8 x.typ) ∧ V.cell? ⟨G, 0, none⟩ = some (.int .i64 l1) ∧ V.cell? ⟨G, 1, none⟩ = some (.int .i64 l2) ∧ V.cell? ⟨G, 2, none⟩ = some (.int .i64 q.D))
            (first | exact HSX.out G _ _ _ K12.out | exact HSX.out G _ _ _ K11.out | exact HSX.out G _ _ _ K10.out | exact HSXd.out | exact HSX0.out)
            (first
              | (go_at_call 18; with_reducible refine (hBA'.out G _ ?_).mono ?_; (first | exact K8.out | exact K8d.out); rintro e w10 ⟨rfl, K10⟩)
              | (go_at_call 14; with_reducible refine (hLA2.out G _ K10.out).mono ?_; rintro e w11 ⟨rfl, K11⟩)
              | (go_at_call 13; with_reducible refine (hTA2'.out G _ K11.out).mono ?_; rintro e w12 ⟨rfl, K12⟩))
          all_goals go_wp2_with fail
          go_roundg (N - (I + 1))
          case measure => omega
          case rel => exact ⟨I + 1, _, by omega, by omega, by first | rfl | (congr 1), hNext.out G _ K12.out, hNX.out⟩
        · obtain rfl : sT = s := hTS.out ht0
          have hd : ((t : Int) != 0) = true := by simp; omega
          have hd2 : ((t : Int) == 0) = false := by rw [beq_eq_false_iff_ne]; omega
          clear hTA2 hBA hTS hLA2
          go_wp2_with fail
          go_region
          all_goals go_wp2_with (first
            | (go_at_call 14; with_reducible refine hL5.out.mono ?_; rintro e w4 ⟨rfl, K4, hlt4, x0, x1, x2, x3, x4, x5, x6, x7, x8, x9, x10, x11⟩)
            | (go_at_call 13; with_reducible refine (hTA.out w4.heap.size _ K4.out).mono ?_; rintro e w5 ⟨rfl, K5⟩))
          clear hL5 hTA K4 hlt4 x0 x1 x2 x3 x4 x5 x6 x7 x8 x9 x10 x11 z0 z1 z2 z3 z4 z5 z6 z7 z8 z9 z10 z11 y0 y1 y2 y3 y4 y5 y6 y7 y8 y9 y10 y11
          generalize w4.heap.size = G at *
          have K5d : Hid (AL w o wr.heap.size G x y (q.left sT).C pa pb q sT sT w5.drew) := K5.out.nw (Fr.refl _ _).drew
          have HSYd := tHid (HSY.out G _ _ _ K5d.out)
          have HSY0 := tHid (HSY.out G _ _ _ K5.out)
          generalize hl1 : q.B - sT.b = l1 at *
          generalize hl2 : q.E - sT.n = l2 at *
          clear hl1 hl2
          go_region_held3 (fun V => V.cell? ⟨wr.heap.size + 1, 0, none⟩ = some (.string (mk y.name)) ∧ V.cell? ⟨wr.heap.size + 1, 1, none⟩ = some (.int .i64 y.kind) ∧ V.cell? ⟨wr.heap.size + 1, 2, none⟩ = some (.int .u32 y.mode) ∧ V.cell? ⟨wr.heap.size + 1, 3, none⟩ = some (.int .u32 y.uid) ∧ V.cell? ⟨wr.heap.size + 1, 4, none⟩ = some (.int .u32 y.gid) ∧ V.cell? ⟨wr.heap.size + 1, 5, none⟩ = some (.int .i64 y.time) ∧ V.cell? ⟨wr.heap.size + 1, 6, none⟩ = some (.int .i32 y.nano) ∧ V.cell? ⟨wr.heap.size + 1, 7, none⟩ = some (.string y.user) ∧ V.cell? ⟨wr.heap.size + 1, 8, none⟩ = some (.string y.group) ∧ V.cell? ⟨wr.heap.size + 1, 9, none⟩ = some (.string y.link) ∧ V.cell? ⟨wr.heap.size + 1, 10, none⟩ = some (.int .i64 y.size) ∧ V.cell? ⟨wr.heap.size + 1, 11, none⟩ = some (.int .u8 y.typ) ∧ V.cell? ⟨G, 0, none⟩ = some (.int .i64 l1) ∧ V.cell? ⟨G, 1, none⟩ = some (.int .i64 l2) ∧ V.cell? ⟨G, 2, none⟩ = some (.int .i64 q.D))
            (first | exact HSY.out G _ _ _ K9.out | exact HSY.out G _ _ _ K8.out | exact HSY.out G _ _ _ K7.out | exact HSY.out G _ _ _ K6.out | exact HSYd.out | exact HSY0.out)
            (first
              | (go_at_call 13; with_reducible refine (hTB.out G _ ?_).mono ?_; (first | exact K5.out | exact K5d.out); rintro e w6 ⟨rfl, K6⟩)
              | (go_at_call 14; with_reducible refine (hLA.out G _ K8.out).mono ?_; rintro e w9 ⟨rfl, K9⟩)
              | (go_at_call 14; with_reducible refine (hLB.out G _ K7.out).mono ?_; rintro e w8 ⟨rfl, K8⟩)
              | (go_at_call 14; with_reducible refine (hLA.out G _ K6.out).mono ?_; rintro e w7 ⟨rfl, K7⟩))
          all_goals go_wp2_with fail
          go_quiet (fail)
          go_wp2_with fail
          go_roundg (N - (I + 1))
          case measure => omega
          case rel => exact ⟨I + 1, _, by omega, by omega, by first | rfl | (congr 1), hNext.out G _ (K9.out.nw ((Fr.refl _ _).drewN _)), hNX.out⟩
    · clear HTA HTB HLA HLB HBA HL0 HL HOK
      have hUA : Hid (∀ V, QO w pa pb q s s V → Calls Try.prog 15 #[.pointer (some ⟨pa, 0, none⟩)] V fun r w' => r = .returned (.agg #[.int .i64 s.b, .int .i64 s.n, .int .i64 0]) ∧ Hid (QO w pa pb q s s w')) := fun V h => HUA.out pa pb s V h
      have hUB : Hid (∀ V, QO w pa pb q s s V → Calls Try.prog 15 #[.pointer (some ⟨pb, 0, none⟩)] V fun r w' => r = .returned (.agg #[.int .i64 s.b, .int .i64 s.n, .int .i64 0]) ∧ Hid (QO w pa pb q s s w')) := fun V h => HUB.out pa pb s V h
      clear HUA HUB
      generalize hl3 : s.b = l3 at *
      clear hl3
      generalize hl4 : s.n = l4 at *
      clear hl4
      go_wp2_with (first
        | (go_at_call 15; with_reducible refine (hUA.out _ K.out.1.1).mono ?_; rintro e w6 ⟨rfl, K6⟩)
        | (go_at_call 15; with_reducible refine (hUB.out _ K6.out).mono ?_; rintro e w7 ⟨rfl, K7⟩))
      go_ret
      exact ⟨by first | rfl | simp, K7.out.n⟩
theorem qalo_any (w : World) (q : Qt) (hq : q.Ok) (a : Option Addr) (c : Nat) (l : List En) (hl : SlR RE (fun k => w.heap.size ≤ k) (.slice a l.length c) l w) (hok : ∀ x ∈ l, x.Ok) (hlen : l.length ≤ 1172812402961) (o : En) (ho : o.Ok) :
    Calls Try.prog 5 #[.agg q.C, .slice a l.length c, .agg o.C] w fun e w' => e = .returned (.bool true) ∧ Nw w w' := by
  by_cases hc : q.can = true
  · exact qalo_yes w q hq hc a c l hl hok hlen o ho
  · exact qalo_no w q (by simpa using hc) _ o
end Go.Proofs.Ytfjjgjkgicabjaa
