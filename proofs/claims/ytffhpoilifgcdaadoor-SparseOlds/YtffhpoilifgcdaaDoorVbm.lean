import Derived.Test.YtffhpoilifgcdaaDoorVbl
import Derived.Great.BuildSlice
namespace Go.Proofs.YtffhpoilifgcdaaDoor
open Go.RowKit
set_option linter.unusedVariables false
/-! ### PutOld, walked -/
theorem results_c33 {fn : Func} {p t u : Tmp} (h : fn.results = #[.cell p 36, .tmp t, .tmp u]) (tmps : Array Value) (w : World) (qb : Nat) (C : Array Value) (hp : tmps.getD p undef = .pointer (some ⟨qb, 0, none⟩)) (hrow : w.heap[qb]? = some (.cells C 36)) (hi : (Tryd.prog.info? 36).map (·.size) = some C.size) : (results fn tmps).run Tryd.prog w = .ok (.tuple #[.agg C, tmps.getD t undef, tmps.getD u undef]) w := by
  have hl := run_loadVar_row (P := Tryd.prog) w qb 36 36 C (0, 0) _ hrow Tryd.underlying36 rfl hi
  have hp' : tmps[p]?.getD undef = .pointer (some ⟨qb, 0, none⟩) := by simpa using hp
  simp [results, h, hp', asAddr, hl]
def PoA (w : World) (R : List By) (l : List Rg) (z : Int) (e : Ending) (V : World) : Prop :=
  (vld l z = false ∧ e = .returned (.tuple #[.agg (rc R), .slice none 0 0, .int .i64 1]) ∧ Hid (Nw w V)) ∨
  (vld l z = true ∧ ∃ a n c, e = .returned (.tuple #[.agg (rc (fstR R l z)), .slice a n c, .int .i64 0]) ∧ Hid (Nw w V ∧ ∃ og, OgR RR og (.slice a n c) (furs (l.drop 4).length (l.drop 4)) V ∧ ∀ g, og = some g → w.heap.size ≤ g))
theorem fold_set (L : List Value) : ∀ (k : Nat) (b : Array Value), k + L.length ≤ b.size → ((L.zipIdx k).foldl (fun cs (x : Value × Nat) => cs.setIfInBounds (0 + x.2) x.1) b).toList = b.toList.take k ++ (L ++ b.toList.drop (k + L.length)) := by
  induction L with
  | nil => intro k b h; simp
  | cons c L ih =>
    intro k b h
    rw [List.length_cons] at h
    rw [List.zipIdx_cons, List.foldl_cons, ih (k + 1) _ (by simp; omega)]
    simp only [Nat.zero_add, Array.toList_setIfInBounds]
    have hk : k < b.toList.length := by simp; omega
    rw [List.drop_set_of_lt (by omega), List.take_add_one, List.getElem?_set_self hk, List.take_set_of_le (by omega)]
    simp [List.length_cons, Nat.add_assoc, Nat.add_comm 1]
theorem fill_rec (base C : Array Value) (hb : base.size = 512) (hC : C.size = 512) : Instr.fill (fun i => some (i * 512, 512)) base [(0, .agg C)] = some C := by
  unfold Instr.fill
  simp only [Value.cells, Nat.zero_mul]
  rw [if_neg (by simp [hb, hC])]
  unfold Instr.fill
  congr 1
  apply Array.ext'
  have := fold_set C.toList 0 base (by simp [hb, hC])
  rw [← Array.foldl_toList, Array.toList_zipIdx]
  refine Eq.trans this ?_
  simp [hb, hC]
theorem infoRec : ∃ ie, Tryd.prog.info? 36 = some ie ∧ ie.zero = some (.agg Tryd.zeroCells36) ∧ ie.size = 512 ∧ ie.bytes = 512 := by
  have h : (Tryd.prog.info? 36).map (fun i => (i.zero, i.size, i.bytes)) = some (some (.agg Tryd.zeroCells36), 512, 512) := by kernel_rfl
  cases hq : Tryd.prog.info? 36 with
  | none => simp [hq] at h
  | some i => simp [hq] at h; exact ⟨i, rfl, h.1, h.2.1, h.2.2⟩
theorem wpList_bsR {ops : Array Oper} {rest : List Oper} {o : Oper} {a : Act} {w : World} {Q : Exit → Act → World → Prop} (hg : o.guard = none) (x : Operand) (ho : o.op = .buildSlice 37 1 #[(0, x)]) (C : Array Value) (hx : a.eval x = .agg C) (hC : C.size = 512)
    (h : wpList Tryd.prog ops Q rest (a.put o.dst (.slice (some ⟨w.heap.size, 0, none⟩) 1 1)) (w.alloc (.cells C 36))) : wpList Tryd.prog ops Q (o :: rest) a w := by
  obtain ⟨ie, hie1, hie2, hie3, hie4⟩ := infoRec
  refine wpList_buildSlice hg 37 36 1 _ ho C ie (.agg Tryd.zeroCells36) Tryd.underlying37 hie1 hie2 (by rw [hie3]; decide) (by rw [hie3]; decide) ?_ h
  have e : (#[((0 : Nat), x)].map fun (p : Nat × Operand) => (p.1, a.eval p.2)).toList = [(0, .agg C)] := by simp [hx]
  rw [hie3]
  refine Eq.trans ?_ (fill_rec ((Array.range (1 * 512)).map ((Value.agg Tryd.zeroCells36).cells[· % (Value.agg Tryd.zeroCells36).cells.size]!)) C (by simp) hC)
  exact congrArg _ e
theorem furs_nil (n : Nat) : furs n [] = [] := by cases n <;> simp [furs]
theorem furs_end (j : Nat) (l : List Rg) (m : Nat) (hm : j ≤ m) (h : l.drop (j * 21) = []) : furs m l = furs j l := by
  induction j generalizing l m with
  | zero =>
    rw [Nat.zero_mul, List.drop_zero] at h
    rw [h, furs_nil, furs_nil]
  | succ j ih =>
    obtain ⟨k, rfl⟩ : ∃ k, m = k + 1 := ⟨m - 1, by omega⟩
    rw [furs, furs]
    by_cases hl : l = []
    · rw [if_pos hl, if_pos hl]
    · rw [if_neg hl, if_neg hl, ih (l.drop 21) k (by omega) (by rw [List.drop_drop, show 21 + j * 21 = (j + 1) * 21 by omega]; exact h)]
theorem furs_len (n : Nat) (l : List Rg) : (furs n l).length ≤ n := by
  induction n generalizing l with
  | zero => simp [furs]
  | succ n ih =>
    rw [furs]
    split
    · simp
    · rw [List.length_cons]; have := ih (l.drop 21); omega
set_option maxHeartbeats 16000000 in
set_option maxRecDepth 100000 in
theorem putOld_any (w : World) (R : List By) (hR : R.length = 512) (l : List Rg) (z : Int) (hz : z ≤ 9223372036854775807) (a : Option Addr) (n c : Nat) (hl : SlR RG (fun k => w.heap.size ≤ k) (.slice a n c) l w) :
    Calls Tryd.prog 16 #[.agg (rc R), .slice a n c, .int .i64 z] w (PoA w R l z) := by
  obtain ⟨P, hP⟩ : ∃ P : Ending → World → Prop, P = PoA w R l z := ⟨_, rfl⟩
  rw [← hP]
  obtain ⟨rb, hrb⟩ : ∃ rb, w.heap.size = rb := ⟨_, rfl⟩
  obtain ⟨qb, hqb⟩ : ∃ qb, rb + 1 = qb := ⟨_, rfl⟩
  obtain ⟨W1, hW1⟩ : ∃ W1, (w.alloc (.cells (rc R) 36)).alloc (.cells Tryd.zeroCells36 36) = W1 := ⟨_, rfl⟩
  have s1 : (w.alloc (.cells (rc R) 36)).heap.size = w.heap.size + 1 := by simp
  have s2 : W1.heap.size = qb + 1 := by rw [← hW1]; simp; omega
  have hN1 : Nw w W1 := by rw [← hW1]; exact ((Fr.refl _ _).alloc _).alloc _
  have hr1 : RcO rb R W1 := by rw [← hW1, ← hrb]; exact Nw.heap ((Fr.refl _ _).alloc _) (nHeap _ _)
  have hq1 : RcO qb zrec W1 := by
    rw [← hW1, ← hqb, ← hrb, ← s1]
    unfold RcO
    rw [← zrec_rc]
    exact nHeap _ _
  have HV : Hid (Calls Tryd.prog 23 #[.slice a n c, .int .i64 z] W1 fun e w' => e = .returned (.bool (vld l z)) ∧ Hid (Nw W1 w')) := valid_any W1 a n c l (hl.nw hN1) z
  have HI : Hid (∀ b : List By, b.length = 512 → (Tryd.prog.info? 36).map (·.size) = some (rc b).size ∧ (rc zrec).size = (rc b).size ∧ (rc b).all (·.oneCell') = true) := fun b hb => ⟨rc_info b hb, by rw [rc_size, rc_size, zrec_length, hb], rc_one b⟩
  have HEND : Hid (∀ (W : World) (b : List By) (v : Value) (E : Nat), Nw W1 W → b.length = 512 → ∃ W5, W.setRow qb (rc b) = W5 ∧ W.heap[qb]? = some (.cells (rc zrec) 36) ∧ Hid (Nw w W5 ∧ Fr (fun k => k = qb) W W5 ∧ ∀ tmps : Array Value, tmps.getD 6 undef = .pointer (some ⟨qb, 0, none⟩) → tmps.getD 7 undef = v → tmps.getD 8 undef = .int .i64 (E : Nat) → P (.returned (.tuple #[.agg (rc b), v, .int .i64 (E : Nat)])) W5 → bodyPost Tryd.prog Tryd.f16 P .ret ⟨tmps, []⟩ W5)) := fun W b v E hW hbl => by
    have hq : W.heap[qb]? = some (.cells (rc zrec) 36) := Nw.heap hW hq1
    have f5 : Fr (fun k => k = qb) W (W.setRow qb (rc b)) := (Fr.refl _ _).setRow qb _ (.inl rfl)
    refine ⟨_, rfl, hq, (hN1.trans hW).then f5 (fun i hi => .inr (by omega)), f5, fun tmps h4 h5 h6 h7 => ?_⟩
    have hq5 : (W.setRow qb (rc b)).heap[qb]? = some (.cells (rc b) 36) := setRow_heap _ _ _ _ 36 _ hq
    refine bodyPost_ret (v := .tuple #[.agg (rc b), v, .int .i64 (E : Nat)]) ?_ rfl h7
    rw [results_c33 rfl tmps _ qb (rc b) h4 hq5 (rc_info b hbl), h5, h6]
  have HN1 := tHid hN1
  have HR1 := tHid hr1
  have HW1 := tHid hW1
  have HL := tHid hl
  have HS2 := tHid s2
  have HRB := tHid hrb
  have HZC : Hid ((Tryd.zeroCells36 : Array Value) = rc zrec) := zrec_rc
  clear hr1 hq1 hW1 hN1 hl s1 s2
  obtain ⟨a', c', e, m1, m2, _⟩ := HL.out.form
  injection e with e1 e2 e3
  subst e1 e2 e3
  cases hv : vld l z with
  | false =>
    rw [hv] at HV
    have HFB : Hid (∀ W5, Nw w W5 → P (.returned (.tuple #[.agg (rc R), .slice none 0 0, .int .i64 (1 : Nat)])) W5) := fun W5 h => by rw [hP]; exact .inl ⟨hv, rfl, h⟩
    clear hP
    go_enter Tryd.func16, Tryd.ntmps16
    go_upto_region 1 with fail
    rw [HW1.out]
    go_upto_region 2 with (first | (go_at_call 23; with_reducible refine HV.out.mono ?_; rintro e w2 ⟨rfl, K2⟩))
    obtain ⟨W5, e5, hq5, HE⟩ := HEND.out w2 R (.slice none 0 0) 1 K2.out hR
    have HQ5 := tHid hq5
    have HR2 : Hid (w2.heap[rb]? = some (.cells (rc R) 36)) := Nw.heap K2.out HR1.out
    have HI2 := tHid (HI.out R hR)
    clear hq5
    go_wp2_with (first
      | (refine wpList_load_row rfl 36 _ rfl rb (by first | rfl | simp [Act.eval]) 36 _ (0, 0) _ HR2.out Tryd.underlying36 rfl HI2.out.1 ?_)
      | (refine wpList_store_row rfl 36 _ _ rfl qb (rc R) (by first | rfl | simp [Act.eval]) (by first | rfl | simp [Act.eval]) 36 _ HQ5.out HI2.out.1 HI2.out.2.1 HI2.out.2.2 ?_; rw [e5]))
    (try simp only [Exit.inBlock, Exit.then])
    exact HE.out.2.2 _ rfl rfl rfl (HFB.out W5 HE.out.1)
  | true =>
    rw [hv] at HV
    obtain ⟨hz0, hln, hok⟩ := vld_ok hv hz
    have HFO : Hid (∀ W5 a' n' c' og, Nw w W5 → OgR RR og (.slice a' n' c') (furs (l.drop 4).length (l.drop 4)) W5 → (∀ g, og = some g → w.heap.size ≤ g) → P (.returned (.tuple #[.agg (rc (fstR R l z)), .slice a' n' c', .int .i64 (0 : Nat)])) W5) := fun W5 a' n' c' og h1 h2 h3 => by rw [hP]; exact .inr ⟨hv, a', n', c', rfl, h1, og, h2, h3⟩
    clear hP hv
    have hFL := fstR_len R hR l hok z hz0 hz
    have hok4 : ∀ j, ∀ x ∈ (l.drop 4).drop (j * 21), OkG x := fun j x hx => hok x (List.mem_of_mem_drop (List.mem_of_mem_drop hx))
    have HFI := tHid first_any
    have HFU := tHid further_any
    go_enter Tryd.func16, Tryd.ntmps16
    go_upto_region 1 with fail
    rw [HW1.out]
    go_upto_region 3 with (first | (go_at_call 23; with_reducible refine HV.out.mono ?_; rintro e w2 ⟨rfl, K2⟩))
    have HR2 : Hid (w2.heap[rb]? = some (.cells (rc R) 36)) := Nw.heap K2.out HR1.out
    have HI2 := tHid (HI.out R hR)
    obtain ⟨fb, hfb⟩ : ∃ fb, w2.heap.size = fb := ⟨_, rfl⟩
    have hrow0 := nHeap w2 (.cells Tryd.zeroCells36 36)
    rw [hfb, HZC.out] at hrow0
    obtain ⟨W3, hW3⟩ : ∃ W3, (w2.alloc (.cells Tryd.zeroCells36 36)).setRow fb (rc R) = W3 := ⟨_, rfl⟩
    rw [HZC.out] at hW3
    have hN3 : Nw w2 W3 := by rw [← hW3]; exact ((Fr.refl _ _).alloc _).setRow _ _ (.inr (by omega))
    have hr3 : RcO fb R W3 := by rw [← hW3]; exact setRow_heap _ _ _ _ 36 _ hrow0
    have HR0 : Hid ((w2.alloc (.cells Tryd.zeroCells36 36)).heap[fb]? = some (.cells (rc zrec) 36)) := by
      have : (w2.alloc (.cells Tryd.zeroCells36 36)).heap[fb]? = some (.cells (rc zrec) 36) := by rw [HZC.out]; exact hrow0
      exact this
    have HW3 : Hid ((w2.alloc (.cells Tryd.zeroCells36 36)).setRow fb (rc R) = W3) := by
      have : (w2.alloc (.cells Tryd.zeroCells36 36)).setRow fb (rc R) = W3 := by rw [HZC.out]; exact hW3
      exact this
    have hfw : w.heap.size ≤ fb := by have := HN1.out.size; have := K2.out.size; omega
    have HPU : Hid (∀ V, Nw W3 V → Calls Tryd.prog 32 #[.agg #[.int .i64 386, .int .i64 4], .pointer (some ⟨fb, 0, none⟩), .slice a l.length c] V (KpA (fun k => w.heap.size ≤ k) V fb R 386 4 l)) := fun V hV => kput_any (fun k => w.heap.size ≤ k) V fb hfw R hR (Nw.heap hV hr3) 386 4 (by omega) l hok a _ c (HL.out.nw (HN1.out.trans (K2.out.trans (hN3.trans hV))))
    unfold KpA at HPU
    have hln1 : (pto R 386 (tabI 4 l (min l.length 4))).length = 512 := by rw [pto_len _ _ _ (by rw [tabI_len 4 l hok _ (by omega) (by omega)]; omega)]; exact hR
    have HPN : Hid (∀ V, RcO fb (pto R 386 (tabI 4 l (min l.length 4))) V → Calls Tryd.prog 33 #[.slice (some ⟨fb, 483, none⟩) 29 29, .int .i64 z] V fun e w' => e = .returned (.bool true) ∧ Hid (RcO fb (fstR R l z) w' ∧ Fr (fun k => k = fb) V w')) := fun V hV => xputN_any V fb 483 29 29 _ hln1 hV (by omega) (by omega) (by omega) (by omega) z hz0 hz
    have hsl := sl483 fb
    have HN3 := tHid (K2.out.trans hN3)
    clear hrow0 hW3 hN3 hr3 hln1
    go_upto_region 4 with (first
      | (refine wpList_load_row rfl 36 _ rfl rb (by first | rfl | simp [Act.eval]) 36 _ (0, 0) _ HR2.out Tryd.underlying36 rfl HI2.out.1 ?_)
      | (refine wpList_store_row rfl 36 _ _ rfl fb (rc R) (by first | rfl | simp [Act.eval]) (by first | rfl | simp [Act.eval]) 36 _ HR0.out HI2.out.1 HI2.out.2.1 HI2.out.2.2 ?_; rw [HW3.out]))
    clear HR0 HW3 HR2
    go_upto_region 6 with (first
      | (go_at_call 31; with_reducible refine (HFI.out _).mono ?_; rintro e w4 ⟨rfl, K4⟩)
      | (go_at_call 32; with_reducible refine (HPU.out _ K4.out).mono ?_; rintro e w5 ⟨a5, n5, c5, rfl, K5⟩)
      | (go_at_call 33; with_reducible refine (HPN.out _ K5.out.1).mono ?_; rintro e w6 ⟨rfl, K6⟩))
    have hN16 : Nw W1 w6 := (HN3.out.trans K4.out).then (K5.out.2.1.trans K6.out.2) (fun i hi => .inr (by have := K2.out.size; omega))
    have HN16 := tHid hN16
    have HF6 : Hid (RcO fb (fstR R l z) w6) := K6.out.1
    have HS6 : Hid (SlR RG (fun k => w.heap.size ≤ k) (.slice a5 n5 c5) (l.drop 4) w6) := K5.out.2.2.kept K6.out.2 (fun k h => by rw [h]; exact hfw)
    clear hN16 K4 K5 K6 HPU HPN HN3
    obtain ⟨L4, hL4⟩ : ∃ L4, l.drop 4 = L4 := ⟨_, rfl⟩
    rw [hL4] at HFO HS6 hok4
    have hL4l : L4.length ≤ 65536 := by rw [← hL4, List.length_drop]; omega
    clear hL4
    go_wp2_with fail
    go_loopg [10, 11, 12] (L4.length + 1) (fun kx v b m wr => ∃ (j : Nat) (og : Option Nat) (a10 : Option Addr) (n10 c10 : Nat) (a12 : Option Addr) (n12 c12 : Nat), j ≤ L4.length ∧ L4.length - j + 1 ≤ kx ∧ v = .slice a10 n10 c10 ∧ b = .bool true ∧ m = .slice a12 n12 c12 ∧ Hid (SlR RG (fun k => w.heap.size ≤ k) (.slice a10 n10 c10) (L4.drop (j * 21)) wr ∧ OgR RR og (.slice a12 n12 c12) (furs j L4) wr ∧ (∀ g, og = some g → w6.heap.size ≤ g) ∧ Nw w6 wr))
    case atStart => exact ⟨0, none, a5, n5, c5, none, 0, 0, by omega, by omega, rfl, rfl, rfl, by rw [Nat.zero_mul, List.drop_zero]; exact HS6.out, ⟨rfl, rfl⟩, (fun g e => by cases e), Fr.refl _ _⟩
    case round =>
      obtain ⟨j, og, a10, n10, c10, a12, n12, c12, hj, hkx, rfl, rfl, rfl, HJ⟩ := hrel
      obtain ⟨Lj, hLj⟩ : ∃ Lj, L4.drop (j * 21) = Lj := ⟨_, rfl⟩
      have hokj := hok4 j
      rw [hLj] at hokj
      have hs10 := HJ.out.1
      rw [hLj] at hs10
      obtain ⟨a', c', e, q1, q2, _⟩ := hs10.form
      injection e with e1 e2 e3
      by_cases hne : Lj = []
      · have hn0 : n10 = 0 := by rw [e2, hne]; rfl
        subst hn0
        clear e2
        have hfe : furs L4.length L4 = furs j L4 := furs_end j L4 _ hj (by rw [hLj]; exact hne)
        obtain ⟨W5, e5, hq5, HE⟩ := HEND.out wr (fstR R l z) (.slice a12 n12 c12) 0 (HN16.out.trans HJ.out.2.2.2) hFL
        have HQ5 := tHid hq5
        have HI2 := tHid (HI.out (fstR R l z) hFL)
        have HFr : Hid (wr.heap[fb]? = some (.cells (rc (fstR R l z)) 36)) := Nw.heap HJ.out.2.2.2 HF6.out
        have hog5 : OgR RR og (.slice a12 n12 c12) (furs L4.length L4) W5 := by
          rw [hfe]
          refine HJ.out.2.1.kept HE.out.2.1 (fun g e1 e2 => ?_)
          have := HJ.out.2.2.1 g e1
          have := HN16.out.size
          have := HS2.out
          omega
        have HPP := tHid (HFO.out W5 a12 n12 c12 og HE.out.1 hog5 (fun g e => by
          have := HJ.out.2.2.1 g e
          have := HN16.out.size
          have := HN1.out.size
          omega))
        clear hq5 HJ HFO hog5 hfe HEND hs10 hokj hok4
        go_wp2_with (first
          | (refine wpList_load_row rfl 36 _ rfl fb (by first | rfl | simp [Act.eval]) 36 _ (0, 0) _ HFr.out Tryd.underlying36 rfl HI2.out.1 ?_)
          | (refine wpList_store_row rfl 36 _ _ rfl qb (rc (fstR R l z)) (by first | rfl | simp [Act.eval]) (by first | rfl | simp [Act.eval]) 36 _ HQ5.out HI2.out.1 HI2.out.2.1 HI2.out.2.2 ?_; rw [e5]))
        (try simp only [Exit.inBlock, Exit.then])
        exact HE.out.2.2 _ rfl rfl rfl HPP.out
      · have hn0 : (0 : Int) < (n10 : Int) := by
          have : 0 < Lj.length := List.length_pos_iff.2 hne
          omega
        have hjl : j * 21 < L4.length := by
          rcases Nat.lt_or_ge (j * 21) L4.length with h | h
          · exact h
          · exact absurd (by rw [← hLj]; exact List.drop_eq_nil_of_le h) hne
        obtain ⟨mb, hmb⟩ : ∃ mb, wr.heap.size = mb := ⟨_, rfl⟩
        obtain ⟨W8, hW8⟩ : ∃ W8, wr.alloc (.cells Tryd.zeroCells36 36) = W8 := ⟨_, rfl⟩
        have hN8 : Nw wr W8 := by rw [← hW8]; exact (Fr.refl _ _).alloc _
        have hr8 : RcO mb zrec W8 := by
          unfold RcO
          rw [← zrec_rc, ← hW8, ← hmb]
          exact nHeap _ _
        have hmw : w.heap.size ≤ mb := by have := HN1.out.size; have := HN16.out.size; have := HJ.out.2.2.2.size; omega
        have HPU : Hid (∀ V, Nw W8 V → Calls Tryd.prog 32 #[.agg #[.int .i64 0, .int .i64 21], .pointer (some ⟨mb, 0, none⟩), .slice a10 n10 c10] V (KpA (fun k => w.heap.size ≤ k) V mb zrec 0 21 Lj)) := fun V hV => kput_any (fun k => w.heap.size ≤ k) V mb hmw zrec zrec_length (Nw.heap hV hr8) 0 21 (by omega) Lj hokj a10 n10 c10 (hs10.nw (hN8.trans hV))
        unfold KpA at HPU
        have hfl := furR_len Lj hokj
        have HI2 := tHid (HI.out (furR Lj) hfl)
        have HSN : Hid (furs (j + 1) L4 = furs j L4 ++ [mk512 (furR Lj)]) := by
          have := furs_snoc (j + 1) L4 j (by omega) (by rw [hLj]; exact hne)
          rw [hLj] at this
          exact this
        have HMV : Hid ((mk512 (furR Lj)).1 = furR Lj) := mk512_val _ hfl
        have HDD : Hid (Lj.drop 21 = L4.drop ((j + 1) * 21)) := by
          have : Lj.drop 21 = L4.drop ((j + 1) * 21) := by rw [← hLj, List.drop_drop]; congr 1; omega
          exact this
        have HFU2 := tHid HFU.out
        have HN8 := tHid hN8
        clear hN8 hr8 hs10 hokj hok4 hLj e2 e1 e3 hne
        go_upto_region 9 with fail
        go_upto_region 10 with (first
          | (go_at_call 34; with_reducible refine (HFU2.out _).mono ?_; rintro e w9 ⟨rfl, K9⟩)
          | (go_at_call 32; with_reducible refine (HPU.out _ K9.out).mono ?_; rintro e wx ⟨a5', n5', c5', rfl, KX⟩))
        obtain ⟨hrx, hFx, hSx⟩ := KX.out
        have hN18 : Nw wr wx := (HN8.out.trans K9.out).then hFx (fun i hi => .inr (by omega))
        have hln : (furs j L4).length ≤ 100000000 := by have := furs_len j L4; omega
        obtain ⟨og', v', W7, a1, a2, a3, a4⟩ := pushR wx og _ (furs j L4) (HJ.out.2.1.nw hN18) hln (mk512 (furR Lj))
        rw [HMV.out] at a1
        rw [← HSN.out] at a2
        have hfr : ∀ g, og = some g → w6.heap.size ≤ g := HJ.out.2.2.1
        have hN7 : Nw w6 W7 := (HJ.out.2.2.2.trans hN18).then a3 (fun i hi => .inr (hfr i hi))
        have hfr' : ∀ g, og' = some g → w6.heap.size ≤ g := fun g e => by
          rcases a4 with h | ⟨g', e', hg'⟩
          · exact hfr g (by rw [← h]; exact e)
          · rw [e'] at e
            injection e with e
            have := (HJ.out.2.2.2.trans hN18).size; omega
        obtain ⟨a8, c8, rfl, _, _⟩ := a2.form
        have hS7 : SlR RG (fun k => w.heap.size ≤ k) (.slice a5' n5' c5') (L4.drop ((j + 1) * 21)) W7 := by
          rw [← HDD.out]
          exact hSx.kept a3 (fun k h => by have := hfr k h; have := HN16.out.size; have := HN1.out.size; omega)
        have HNX : Hid (SlR RG (fun k => w.heap.size ≤ k) (.slice a5' n5' c5') (L4.drop ((j + 1) * 21)) W7 ∧ OgR RR og' (.slice a8 (furs (j + 1) L4).length c8) (furs (j + 1) L4) W7 ∧ (∀ g, og' = some g → w6.heap.size ≤ g) ∧ Nw w6 W7) := ⟨hS7, a2, hfr', hN7⟩
        have HRX : Hid (wx.heap[mb]? = some (.cells (rc (furR Lj)) 36)) := hrx
        have HCS : Hid ((rc (furR Lj)).size = 512) := by show _ = _; rw [rc_size, hfl]
        generalize (furs (j + 1) L4).length = n8 at *
        clear HJ KX hrx hFx hSx a2 a3 a4 hN7 hfr hfr' hS7 hln hN18 HSN HMV HDD HPU HFU2 HN8 K9 HEND HFO hfl
        generalize rc (furR Lj) = C at *
        go_wp2_with (first
          | (refine wpList_load_row rfl 36 _ rfl mb (by first | rfl | simp [Act.eval]) 36 _ (0, 0) _ HRX.out Tryd.underlying36 rfl HI2.out.1 ?_)
          | (refine wpList_bsR rfl _ rfl C (by first | rfl | simp [Act.eval]) HCS.out ?_)
          | (at_builtin; refine Lib.wpList_append_run _ rfl _ _ 37 37 rfl (.slice a12 n12 c12) (.slice (some ⟨wx.heap.size, 0, none⟩) 1 1) (by first | rfl | simp [Act.eval]) (by first | rfl | simp [Act.eval]) _ _ (a1.out _) ?_))
        go_roundg (L4.length - (j + 1) + 1)
        case measure => omega
        case rel => exact ⟨j + 1, og', a5', n5', c5', a8, n8, c8, by omega, by omega, rfl, rfl, rfl, HNX⟩
end Go.Proofs.YtffhpoilifgcdaaDoor
