import Derived.Test.YtffhpoilifgcdaaDoorVbm
import Derived.Test.YtffhpoilifgcdaaDoorVbo
import Derived.Deep.RegionHeld3
namespace Go.Proofs.YtffhpoilifgcdaaDoor
open Go.RowKit
set_option linter.unusedVariables false
/-! ### The document's put -/
theorem pto_more (R L : List By) (o I : Nat) (h1 : I < L.length) (h2 : o + L.length ≤ R.length) : (pto R o (L.take I)).set (o + I) L[I] = pto R o (L.take (I + 1)) := by
  unfold pto
  have hl : (L.take I).length = I := by rw [List.length_take]; omega
  have hl2 : (L.take (I + 1)).length = I + 1 := by rw [List.length_take]; omega
  have ho : (R.take o).length = o := by rw [List.length_take]; omega
  have hlt : o + I < R.length := by omega
  have e : R.drop (o + I) = R[o + I] :: R.drop (o + (I + 1)) := List.drop_eq_getElem_cons hlt
  rw [hl, hl2, e]
  have := set_mid R[o + I] L[I] (R.take o ++ L.take I) (R.drop (o + (I + 1)))
  rw [List.length_append, ho, hl, List.append_assoc] at this
  rw [this, take_snoc L I h1, List.append_assoc, List.append_assoc]
  rfl
theorem RcO.cellF {g : Nat} {R : List By} {w : World} (h : RcO g R w) (j : Nat) (hj : j < R.length) : w.cell? ⟨g, j, none⟩ = some (.int .u8 R[j].toNat) ∧ w.frozen? ⟨g, j, none⟩ = false := by
  refine ⟨h.at j hj, ?_⟩
  unfold RcO at h
  simp [World.frozen?, h]
theorem RcO.keptF {g : Nat} {R : List By} {w w' : World} {X : Nat → Prop} (h : RcO g R w) (f : Fr X w w') (hx : ¬ X g) : RcO g R w' := (f.block g (Array.getElem?_eq_some_iff.1 h).1 hx).trans h
theorem results_c22 {fn : Func} {p t : Tmp} (h : fn.results = #[.cell p 36, .tmp t]) (tmps : Array Value) (w : World) (qb : Nat) (C : Array Value) (hp : tmps.getD p undef = .pointer (some ⟨qb, 0, none⟩)) (hrow : w.heap[qb]? = some (.cells C 36)) (hi : (Tryd.prog.info? 36).map (·.size) = some C.size) : (results fn tmps).run Tryd.prog w = .ok (.tuple #[.agg C, tmps.getD t undef]) w := by
  have hl := run_loadVar_row (P := Tryd.prog) w qb 36 36 C (0, 0) _ hrow Tryd.underlying36 rfl hi
  have hp' : tmps[p]?.getD undef = .pointer (some ⟨qb, 0, none⟩) := by simpa using hp
  simp [results, h, hp', asAddr, hl]
set_option maxHeartbeats 8000000 in
set_option maxRecDepth 100000 in
theorem yput_any (w : World) (R : List By) (hR : R.length = 512) (o : Nat) (ho : o + 12 ≤ 512) (z : Int) (hz0 : 0 ≤ z) (hz : z ≤ 9223372036854775807) :
    Calls Tryd.prog 36 #[.agg (rc R), .int .i64 (o : Int), .int .i64 z] w fun e w' => e = .returned (.tuple #[.agg (rc (pto R o (pnL z 12))), .bool true]) ∧ Hid (Nw w w') := by
  obtain ⟨P, hP⟩ : ∃ P : Ending → World → Prop, P = fun e w' => e = .returned (.tuple #[.agg (rc (pto R o (pnL z 12))), .bool true]) ∧ Hid (Nw w w') := ⟨_, rfl⟩
  rw [← hP]
  obtain ⟨hE, hL12, _⟩ := pn12 z hz0 hz
  obtain ⟨l, hl⟩ : ∃ l, pnL z 12 = l := ⟨_, rfl⟩
  rw [hl] at hL12
  have HF : Hid (∀ W, Nw w W → P (.returned (.tuple #[.agg (rc (pto R o l)), .bool true])) W) := fun W hW => by rw [hP, hl]; exact ⟨rfl, hW⟩
  clear hP
  obtain ⟨rb, hrb⟩ : ∃ rb, w.heap.size = rb := ⟨_, rfl⟩
  obtain ⟨qb, hqb⟩ : ∃ qb, rb + 1 = qb := ⟨_, rfl⟩
  obtain ⟨W1, hW1⟩ : ∃ W1, (w.alloc (.cells (rc R) 36)).alloc (.cells Tryd.zeroCells36 36) = W1 := ⟨_, rfl⟩
  have s1 : (w.alloc (.cells (rc R) 36)).heap.size = w.heap.size + 1 := by simp
  have hN1 : Nw w W1 := by rw [← hW1]; exact ((Fr.refl _ _).alloc _).alloc _
  have hr1 : RcO rb R W1 := by rw [← hW1, ← hrb]; exact Nw.heap ((Fr.refl _ _).alloc _) (nHeap _ _)
  have hq1 : RcO qb zrec W1 := by
    rw [← hW1, ← hqb, ← hrb, ← s1]
    unfold RcO
    rw [← zrec_rc]
    exact nHeap _ _
  have s2 : W1.heap.size = qb + 1 := by rw [← hW1]; simp; omega
  have HPn : Hid (Calls Tryd.prog 46 #[.int .i64 z, .int .i64 12] W1 fun e w' => ∃ a m c, e = .returned (.tuple #[.slice a m c, .int .i64 0]) ∧ Hid (Nw W1 w' ∧ ∃ g, W1.heap.size ≤ g ∧ Ow g (.slice a m c) l w')) := by
    refine (rputNumber_any z 12 W1 (by omega) hz).mono ?_
    rintro e w' ⟨a, m, c, he, H⟩
    rw [hE] at he H
    refine ⟨a, m, c, he, H.out.1, ?_⟩
    rcases H.out.2 with ⟨h, _⟩ | ⟨_, h⟩
    · exact absurd rfl h
    · rw [hl] at h; exact h
  have HEN0 : Hid (∀ (W : World) (b : List By), b.length = 512 → Nw w W → RcO qb b W → pto R o l = b → ∀ tmps : Array Value, tmps.getD 6 undef = .pointer (some ⟨qb, 0, none⟩) → tmps.getD 7 undef = .bool true → bodyPost Tryd.prog Tryd.f36 P .ret ⟨tmps, []⟩ W) := fun W b hbl hW hq h1 tmps g2 g3 => by
    refine bodyPost_ret (v := .tuple #[.agg (rc b), .bool true]) ?_ rfl ?_
    · rw [results_c22 rfl tmps _ qb (rc b) g2 hq (rc_info b hbl), g3]
    · rw [← h1]
      exact HF.out W hW
  have HN1 := tHid hN1
  have HR1 := tHid hr1
  have HQ1 := tHid hq1
  have HW1 := tHid hW1
  have HS2 := tHid s2
  clear hN1 hr1 hq1 hW1 s1 s2 hE HF
  have hoI : (o : Int) + 12 ≤ 512 := by omega
  go_enter Tryd.func36, Tryd.ntmps36
  go_upto_region 1 with fail
  rw [HW1.out]
  go_upto_region 5 with (first | (go_at_call 46; with_reducible refine HPn.out.mono ?_; rintro e w2 ⟨a2, m2, c2, rfl, K2⟩))
  obtain ⟨k2, g2, hg2, ow2⟩ := K2.out
  obtain ⟨xs, e2, x1, x2, x3, x4⟩ := ow2
  have ow2 : Ow g2 (.slice a2 m2 c2) l w2 := ⟨xs, e2, x1, x2, x3, x4⟩
  injection e2 with e3 e4 e5
  subst e3 e4
  have HO2 := tHid ow2
  have HK2 := tHid k2
  have HG2 : Hid (W1.heap.size ≤ g2) := hg2
  have hcc : l.length ≤ c2 := by omega
  clear x1 x2 x3 x4 e5 xs K2 ow2 k2 hg2
  go_loopg [10] 12 (fun kx v wr => ∃ I : Nat, I ≤ 12 ∧ 12 ≤ I + kx ∧ v = .int .i64 (I : Int) ∧ Hid (RcO rb (pto R o (l.take I)) wr ∧ Fr (fun k => k = rb) w2 wr))
  case atStart => exact ⟨0, by omega, by omega, rfl, by rw [List.take_zero, pto_nil]; exact ⟨Nw.heap HK2.out HR1.out, Fr.refl _ _⟩⟩
  case round =>
    obtain ⟨I, hI1, hkx, rfl, HI⟩ := hrel
    have hpl : (pto R o (l.take I)).length = 512 := by rw [pto_len _ _ _ (by rw [List.length_take]; omega)]; exact hR
    by_cases q1 : I < 12
    · have q1' : (I : Int) < 12 := by omega
      have q4 : I < l.length := by omega
      have q2' : (o : Int) + (I : Int) < 512 := by omega
      have q3' : 0 ≤ (o : Int) + (I : Int) := by omega
      have hcl := ((HO2.out.kept HI.out.2 (fun e => by have := HG2.out; have := HS2.out; omega)).at I q4).1
      have hrc := HI.out.1.cellF (o + I) (by rw [hpl]; omega)
      have r1 := hrc.1
      have r2 := hrc.2
      have HNX : Hid (RcO rb (pto R o (l.take (I + 1))) (wr.setCell ⟨rb, o + I, none⟩ (.int .u8 (l[I]'q4).toNat)) ∧ Fr (fun k => k = rb) w2 (wr.setCell ⟨rb, o + I, none⟩ (.int .u8 (l[I]'q4).toNat))) := by
        refine ⟨?_, HI.out.2.setCell ⟨rb, o + I, none⟩ _ (.inl rfl)⟩
        rw [← pto_more R l o I q4 (by omega)]
        exact HI.out.1.set1 (o + I) l[I]
      have hoN : ((o : Int) + (I : Int)).toNat = o + I := by omega
      have hml : (I : Int) < (l.length : Int) := by omega
      clear hrc HI
      generalize (l[I]'q4) = x at *
      go_wp2_with fail
      go_roundg (12 - (I + 1))
      case measure => omega
      case rel => exact ⟨I + 1, by omega, by omega, by first | rfl | (congr 1), HNX⟩
    · have hRr : pto R o l = pto R o (l.take I) := by rw [List.take_of_length_le (by omega)]
      have hq5 := (show RcO qb zrec w2 from Nw.heap HK2.out HQ1.out).keptF HI.out.2 (fun e => by omega)
      obtain ⟨W5, e5⟩ : ∃ W5, wr.setRow qb (rc (pto R o (l.take I))) = W5 := ⟨_, rfl⟩
      have hq6 : RcO qb (pto R o (l.take I)) W5 := by rw [← e5]; exact setRow_heap _ _ _ _ 36 _ hq5
      have hn6 : Nw w W5 := by
        rw [← e5]
        exact (Fr.then (HN1.out.trans HK2.out) HI.out.2 (fun i hi => .inr (by omega))).setRow _ _ (.inr (by omega))
      have Y1 := tHid HI.out.1
      have Y2 := tHid (rc_info (pto R o (l.take I)) hpl)
      have Y3 := tHid hq5
      have Y4 : Hid ((rc zrec).size = (rc (pto R o (l.take I))).size) := by show _ = _; rw [rc_size, rc_size, zrec_length, hpl]
      have Y5 := tHid (rc_one (pto R o (l.take I)))
      have HE := tHid (HEN0.out W5 (pto R o (l.take I)) hpl hn6 hq6 hRr)
      clear HI hq5 hq6 hn6 hpl HEN0 hRr
      generalize pto R o (l.take I) = R5 at *
      have hp : ¬ (I : Int) < 12 := by omega
      go_wp2_with (first
        | (refine wpList_load_row rfl 36 _ rfl rb (by first | rfl | simp [Act.eval]) 36 _ (0, 0) _ Y1.out Tryd.underlying36 rfl Y2.out ?_)
        | (refine wpList_store_row rfl 36 _ _ rfl qb (rc R5) (by first | rfl | simp [Act.eval]) (by first | rfl | simp [Act.eval]) 36 _ Y3.out Y2.out Y4.out Y5.out ?_; rw [e5]))
      (try simp only [Exit.inBlock, Exit.then])
      exact HE.out _ rfl rfl
end Go.Proofs.YtffhpoilifgcdaaDoor

namespace Go.Proofs.YtffhpoilifgcdaaDoor
open Go.RowKit
set_option linter.unusedVariables false
set_option linter.unusedSimpArgs false
/-! ### The document's some -/
theorem pto_app (R A B : List By) (f : Nat) (h : f + (A.length + B.length) ≤ R.length) : pto (pto R f A) (f + A.length) B = pto R f (A ++ B) := by
  apply List.ext_getElem?
  intro j
  have hl : (pto R f A).length = R.length := pto_len R A f (by omega)
  rw [pto_at _ _ _ (by omega), pto_at _ _ _ (by omega), pto_at _ _ _ (by rw [List.length_append]; omega), List.length_append]
  by_cases h1 : f + A.length ≤ j ∧ j < f + A.length + B.length
  · rw [if_pos h1, if_pos ⟨by omega, by omega⟩, List.getElem?_append_right (by omega)]
    congr 1
    omega
  · rw [if_neg h1]
    by_cases h2 : f ≤ j ∧ j < f + A.length
    · rw [if_pos h2, if_pos ⟨by omega, by omega⟩, List.getElem?_append_left (by omega)]
    · rw [if_neg h2, if_neg (by omega)]
theorem pto_over (R A B : List By) (o : Nat) (h : o + A.length ≤ R.length) (hb : B.length = A.length) : pto (pto R o A) o B = pto R o B := by
  apply List.ext_getElem?
  intro j
  have hl : (pto R o A).length = R.length := pto_len R A o h
  rw [pto_at _ _ _ (by omega), pto_at _ _ _ (by omega), pto_at _ _ _ (by omega)]
  by_cases h1 : o ≤ j ∧ j < o + B.length
  · rw [if_pos h1, if_pos h1]
  · rw [if_neg h1, if_neg h1, if_neg (by omega)]
/-- The first i places: the ranges, and zeros where there are none. -/
def smT (l : List Rg) (i : Nat) : List By := slots (l.take i) ++ z8 ((i - l.length) * 24)
theorem smT_len (l : List Rg) (h : ∀ x ∈ l, OkG x) (i : Nat) : (smT l i).length = i * 24 := by
  unfold smT
  rw [List.length_append, slots_len _ (take_ok h i), z8_len, List.length_take]
  omega
theorem smT_more (l : List Rg) (i : Nat) (x : Rg) (hx : l[i]? = some x) : smT l (i + 1) = smT l i ++ slB x := by
  have hi : i < l.length := (List.getElem?_eq_some_iff.1 hx).1
  unfold smT
  have e1 : i - l.length = 0 := by omega
  have e2 : i + 1 - l.length = 0 := by omega
  rw [e1, e2, List.take_add_one, hx]
  show slots (l.take i ++ [x]) ++ _ = _
  rw [slots_snoc]
  simp [z8]
theorem smT_none (l : List Rg) (i : Nat) (hi : l.length ≤ i) : smT l (i + 1) = smT l i ++ z8 24 := by
  unfold smT
  rw [List.take_of_length_le hi, List.take_of_length_le (by omega), List.append_assoc, ← z8_add]
  congr 2
  omega
theorem some_yes (R : List By) (hR : R.length = 512) (f : Nat) (l : List Rg) (h : ∀ x ∈ l, OkG x) (i : Nat) (x : Rg) (hx : l[i]? = some x) (hf : f + i * 24 + 24 ≤ 512) :
    pto (pto (pto (pto R f (smT l i)) (f + i * 24) (z8 24)) (f + i * 24) (pnL x.1 12)) (f + i * 24 + 12) (pnL (x.2 - x.1) 12) = pto R f (smT l (i + 1)) := by
  have hs := smT_len l h i
  have hk : OkG x := h x (List.mem_of_getElem? hx)
  have p1 := (pn12 x.1 hk.1 (by have := hk.2; omega)).2.1
  have p2 := (pn12 (x.2 - x.1) (by have := hk.2; omega) (by have := hk.1; have := hk.2; omega)).2.1
  have l1 : (pto R f (smT l i)).length = 512 := by rw [pto_len _ _ _ (by omega)]; exact hR
  have l2 : (pto (pto R f (smT l i)) (f + i * 24) (z8 24)).length = 512 := by rw [pto_len _ _ _ (by rw [z8_len]; omega)]; exact l1
  have e1 := pto_app (pto (pto R f (smT l i)) (f + i * 24) (z8 24)) (pnL x.1 12) (pnL (x.2 - x.1) 12) (f + i * 24) (by omega)
  rw [p1] at e1
  rw [e1, pto_over _ _ _ _ (by rw [z8_len]; omega) (by rw [List.length_append, z8_len]; omega), smT_more l i x hx]
  have e2 := pto_app R (smT l i) (slB x) f (by rw [slB_len x hk]; omega)
  rw [hs] at e2
  exact e2
theorem some_no (R : List By) (hR : R.length = 512) (f : Nat) (l : List Rg) (h : ∀ x ∈ l, OkG x) (i : Nat) (hi : l.length ≤ i) (hf : f + i * 24 + 24 ≤ 512) :
    pto (pto R f (smT l i)) (f + i * 24) (z8 24) = pto R f (smT l (i + 1)) := by
  have hs := smT_len l h i
  have e2 := pto_app R (smT l i) (z8 24) f (by rw [z8_len]; omega)
  rw [hs] at e2
  rw [e2, smT_none l i hi]
set_option maxHeartbeats 16000000 in
set_option maxRecDepth 100000 in
theorem ysome_any (w : World) (R : List By) (hR : R.length = 512) (f r : Nat) (hfr : f + r * 24 ≤ 512) (l : List Rg) (hok : ∀ x ∈ l, OkG x) (a : Option Addr) (n c : Nat) (hl : SlR RG (fun k => w.heap.size ≤ k) (.slice a n c) l w) :
    Calls Tryd.prog 35 #[.agg (rc R), .int .i64 (f : Int), .int .i64 (r : Int), .slice a n c] w fun e w' => e = .returned (.tuple #[.agg (rc (pto R f (smT l r))), .bool true]) ∧ Hid (Nw w w') := by
  obtain ⟨P, hP⟩ : ∃ P : Ending → World → Prop, P = fun e w' => e = .returned (.tuple #[.agg (rc (pto R f (smT l r))), .bool true]) ∧ Hid (Nw w w') := ⟨_, rfl⟩
  rw [← hP]
  obtain ⟨a', c', e, m1, m2, mf⟩ := hl.form
  injection e with e1 e2 e3
  subst e1 e2 e3
  clear mf
  have HF : Hid (∀ W, Nw w W → P (.returned (.tuple #[.agg (rc (pto R f (smT l r))), .bool true])) W) := fun W hW => by rw [hP]; exact ⟨rfl, hW⟩
  clear hP
  obtain ⟨rb, hrb⟩ : ∃ rb, w.heap.size = rb := ⟨_, rfl⟩
  obtain ⟨qb, hqb⟩ : ∃ qb, rb + 1 = qb := ⟨_, rfl⟩
  obtain ⟨W1, hW1⟩ : ∃ W1, (w.alloc (.cells (rc R) 36)).alloc (.cells Tryd.zeroCells36 36) = W1 := ⟨_, rfl⟩
  have s1 : (w.alloc (.cells (rc R) 36)).heap.size = w.heap.size + 1 := by simp
  have hN1 : Nw w W1 := by rw [← hW1]; exact ((Fr.refl _ _).alloc _).alloc _
  have hr1 : RcO rb R W1 := by rw [← hW1, ← hrb]; exact Nw.heap ((Fr.refl _ _).alloc _) (nHeap _ _)
  have hq1 : RcO qb zrec W1 := by
    rw [← hW1, ← hqb, ← hrb, ← s1]
    unfold RcO
    rw [← zrec_rc]
    exact nHeap _ _
  have HL : Hid (∀ V, Fr (fun k => k = rb) W1 V → SlR RG (fun k => w.heap.size ≤ k) (.slice a l.length c) l V) := fun V hV => (hl.nw hN1).kept hV (fun k h => by show _ ≤ _; omega)
  have HPut : Hid (∀ (V : World) (R2 : List By) (o : Nat) (z : Int), R2.length = 512 → o + 12 ≤ 512 → 0 ≤ z → z ≤ 9223372036854775807 → RcO rb R2 V → Calls Tryd.prog 36 #[.agg (rc R2), .int .i64 (o : Int), .int .i64 z] V fun e V' => e = .returned (.tuple #[.agg (rc (pto R2 o (pnL z 12))), .bool true]) ∧ ∃ W5, V'.setRow rb (rc (pto R2 o (pnL z 12))) = W5 ∧ Hid (Nw V V' ∧ RcO rb R2 V' ∧ Fr (fun k => k = rb) V W5 ∧ RcO rb (pto R2 o (pnL z 12)) W5)) := fun V R2 o z h1 h2 h3 h4 h5 => (yput_any V R2 h1 o h2 z h3 h4).mono (fun e V' q => by
    have h6 : RcO rb R2 V' := Nw.heap q.2.out h5
    exact ⟨q.1, _, rfl, q.2.out, h6, Fr.trans (X := fun k => k = rb) (Fr.mono q.2.out (fun i hi => hi.elim)) ((Fr.refl _ _).setRow rb _ (.inl rfl)), setRow_heap _ _ _ _ 36 _ h6⟩)
  have HEN0 : Hid (∀ (W : World) (b : List By), b.length = 512 → Nw w W → RcO qb b W → pto R f (smT l r) = b → ∀ tmps : Array Value, tmps.getD 8 undef = .pointer (some ⟨qb, 0, none⟩) → tmps.getD 9 undef = .bool true → bodyPost Tryd.prog Tryd.f35 P .ret ⟨tmps, []⟩ W) := fun W b hbl hW hq h1 tmps g2 g3 => by
    refine bodyPost_ret (v := .tuple #[.agg (rc b), .bool true]) ?_ rfl ?_
    · rw [results_c22 rfl tmps _ qb (rc b) g2 hq (rc_info b hbl), g3]
    · rw [← h1]
      exact HF.out W hW
  have HRI : Hid (∀ b : List By, b.length = 512 → (Tryd.prog.info? 36).map (·.size) = some (rc b).size ∧ (∀ d : List By, d.length = 512 → (rc d).size = (rc b).size) ∧ (rc b).all (·.oneCell') = true) := fun b hb => ⟨rc_info b hb, fun d hd => by rw [rc_size, rc_size, hd, hb], rc_one b⟩
  have HN1 := tHid hN1
  have HR1 := tHid hr1
  have HQ1 := tHid hq1
  have HW1 := tHid hW1
  have HOK := tHid hok
  clear hN1 hr1 hq1 hW1 s1 hl HF hok
  have hri : (r : Int) ≤ 21 := by omega
  have hfi : (f : Int) ≤ 512 := by omega
  go_enter Tryd.func35, Tryd.ntmps35
  go_upto_region 1 with fail
  rw [HW1.out]
  go_wp2_with fail
  go_loopg [10, 11] r (fun kx u v wr => ∃ I : Nat, I ≤ r ∧ r ≤ I + kx ∧ u = .bool true ∧ v = .int .i64 (I : Int) ∧ Hid (RcO rb (pto R f (smT l I)) wr ∧ Fr (fun k => k = rb) W1 wr))
  case atStart => exact ⟨0, by omega, by omega, rfl, rfl, by
    have : smT l 0 = [] := by unfold smT; simp [slots, z8]
    rw [this, pto_nil]
    exact HR1.out, Fr.refl _ _⟩
  case round =>
    obtain ⟨I, hI1, hkx, rfl, rfl, HI⟩ := hrel
    have hsl : (smT l I).length = I * 24 := smT_len l HOK.out I
    have hpl : (pto R f (smT l I)).length = 512 := by rw [pto_len _ _ _ (by omega)]; exact hR
    by_cases q1 : I < r
    · have q1' : (I : Int) < (r : Int) := by omega
      obtain ⟨At, hAt⟩ : ∃ At, f + I * 24 = At := ⟨_, rfl⟩
      have hAi : (f : Int) + 24 * (I : Int) = (At : Int) := by omega
      have hA1 : (At : Int) + 24 ≤ 512 := by omega
      obtain ⟨R1, hR1⟩ : ∃ R1, pto R f (smT l I) = R1 := ⟨_, rfl⟩
      have HR1e := tHid hR1
      rw [hR1] at HI hpl
      clear hR1
      go_upto_region 7 with fail
      go_loopg [13] 24 (fun kx v wq => ∃ K : Nat, K ≤ 24 ∧ 24 ≤ K + kx ∧ v = .int .i64 (K : Int) ∧ Hid (RcO rb (pto R1 At ((z8 24).take K)) wq ∧ Fr (fun k => k = rb) W1 wq))
      case atStart => exact ⟨0, by omega, by omega, rfl, by rw [List.take_zero, pto_nil]; exact HI.out⟩
      case round =>
        obtain ⟨K, hK1, hky, rfl, HK⟩ := hrel
        have hz24 : (z8 24).length = 24 := z8_len 24
        have hpk : (pto R1 At ((z8 24).take K)).length = 512 := by rw [pto_len _ _ _ (by rw [List.length_take]; omega)]; exact hpl
        by_cases p1 : K < 24
        · have p1' : (K : Int) < 24 := by omega
          have p2' : (At : Int) + (K : Int) < 512 := by omega
          have p3' : 0 ≤ (At : Int) + (K : Int) := by omega
          have hrc := HK.out.1.cellF (At + K) (by rw [hpk]; omega)
          have r1 := hrc.1
          have r2 := hrc.2
          have HNX : Hid (RcO rb (pto R1 At ((z8 24).take (K + 1))) (wr.setCell ⟨rb, At + K, none⟩ (.int .u8 0)) ∧ Fr (fun k => k = rb) W1 (wr.setCell ⟨rb, At + K, none⟩ (.int .u8 0))) := by
            refine ⟨?_, HK.out.2.setCell ⟨rb, At + K, none⟩ _ (.inl rfl)⟩
            have e0 : (z8 24)[K]'(by omega) = 0#8 := List.getElem_replicate _
            rw [← pto_more R1 (z8 24) At K (by omega) (by omega), e0]
            exact HK.out.1.set1 (At + K) 0#8
          have hoN : ((At : Int) + (K : Int)).toNat = At + K := by omega
          clear hrc HK HI
          go_wp2_with fail
          go_roundg (24 - (K + 1))
          case measure => omega
          case rel => exact ⟨K + 1, by omega, by omega, by first | rfl | (congr 1), HNX⟩
        · have hK24 : (z8 24).take K = z8 24 := List.take_of_length_le (by omega)
          rw [hK24] at HK hpk
          have p1' : ¬ (K : Int) < 24 := by omega
          clear hK24
          obtain ⟨wq, hwq⟩ : ∃ wq, wr = wq := ⟨_, rfl⟩
          rw [hwq] at HK ⊢
          clear HI hwq
          by_cases q2 : I < l.length
          · have q2' : (I : Int) < (l.length : Int) := by omega
            have q2'' : ¬ (l.length : Int) ≤ (I : Int) := by omega
            obtain ⟨x, hx⟩ : ∃ x, l[I]? = some x := ⟨_, List.getElem?_eq_getElem q2⟩
            have hkx2 : OkG x := HOK.out x (List.mem_of_getElem? hx)
            obtain ⟨lg, lo, ea, hlg, hcell⟩ := (HL.out wq HK.out.2).at I x hx
            have HYes := tHid (some_yes R hR f l HOK.out I x hx (by omega))
            rw [HR1e.out, hAt] at HYes
            obtain ⟨x1, x2⟩ := x
            have hx1 : 0 ≤ x1 := hkx2.1
            have hx12 : x1 ≤ x2 := hkx2.2.1
            have hx2 : x2 ≤ 9223372036854775807 := hkx2.2.2
            have HS : Hid (∀ U, Fr (fun k => k = rb) wq U → Fr (fun k => k = rb) W1 U ∧ U.cell? ⟨lg, lo + I * 2, none⟩ = some (.int .i64 x1) ∧ U.cell? ⟨lg, lo + I * 2 + 1, none⟩ = some (.int .i64 x2)) := fun U hU => by
              obtain ⟨lg', lo', ea', hlg', hcell'⟩ := (HL.out U (HK.out.2.trans hU)).at I (x1, x2) hx
              rw [ea] at ea'
              injection ea' with ea'
              injection ea' with ea1 ea2
              subst ea1 ea2
              exact ⟨HK.out.2.trans hU, hcell' 0 _ rfl, hcell' 1 _ rfl⟩
            subst ea
            obtain ⟨R2, hR2⟩ : ∃ R2, pto R1 At (z8 24) = R2 := ⟨_, rfl⟩
            rw [hR2] at HK hpk HYes
            obtain ⟨R3, hR3⟩ : ∃ R3, pto R2 At (pnL x1 12) = R3 := ⟨_, rfl⟩
            obtain ⟨D, hD⟩ : ∃ D, x2 - x1 = D := ⟨_, rfl⟩
            obtain ⟨A12, hA12⟩ : ∃ A12, At + 12 = A12 := ⟨_, rfl⟩
            obtain ⟨R4, hR4⟩ : ∃ R4, pto R3 A12 (pnL D 12) = R4 := ⟨_, rfl⟩
            have HYes2 : Hid (R4 = pto R f (smT l (I + 1))) := by
              have := HYes.out
              rw [hR3, hD, hA12, hR4] at this
              exact this
            have p12 := (pn12 x1 hx1 (by omega)).2.1
            have p13 := (pn12 D (by omega) (by omega)).2.1
            have l3 : R3.length = 512 := by rw [← hR3, pto_len _ _ _ (by omega)]; exact hpk
            have l4 : R4.length = 512 := by rw [← hR4, pto_len _ _ _ (by omega)]; exact l3
            have hA12i : (At : Int) + 12 = (A12 : Int) := by omega
            have hwA : IntKind.i64.wrap (A12 : Int) = (A12 : Int) := by rw [IntKind.wrap_i64]; omega
            have hwD : IntKind.i64.wrap D = D := by rw [IntKind.wrap_i64]; omega
            have HD12 : Hid (wq.drew.heap[rb]? = some (.cells (rc R2) 36)) := Nw.heap ((Fr.refl _ _).drew) HK.out.1
            have HI12 := tHid (HRI.out R2 hpk).1
            have HN12 : Hid ((Tryd.prog.info? 36).map (·.size) = some (rc R3).size ∧ (rc R2).size = (rc R3).size ∧ (rc R3).all (·.oneCell') = true) := ⟨(HRI.out R3 l3).1, (HRI.out R3 l3).2.1 R2 hpk, (HRI.out R3 l3).2.2⟩
            have HI13 := tHid (HRI.out R3 l3).1
            have HN13 : Hid ((Tryd.prog.info? 36).map (·.size) = some (rc R4).size ∧ (rc R3).size = (rc R4).size ∧ (rc R4).all (·.oneCell') = true) := ⟨(HRI.out R4 l4).1, (HRI.out R4 l4).2.1 R3 l3, (HRI.out R4 l4).2.2⟩
            have HP12 : Hid (Calls Tryd.prog 36 #[.agg (rc R2), .int .i64 (At : Int), .int .i64 x1] wq.drew fun e V' => e = .returned (.tuple #[.agg (rc R3), .bool true]) ∧ ∃ W5, V'.setRow rb (rc R3) = W5 ∧ Hid ((Fr (fun k => k = rb) W1 V' ∧ V'.cell? ⟨lg, lo + I * 2, none⟩ = some (.int .i64 x1) ∧ V'.cell? ⟨lg, lo + I * 2 + 1, none⟩ = some (.int .i64 x2)) ∧ V'.heap[rb]? = some (.cells (rc R2) 36) ∧ (Fr (fun k => k = rb) W1 W5 ∧ W5.cell? ⟨lg, lo + I * 2, none⟩ = some (.int .i64 x1) ∧ W5.cell? ⟨lg, lo + I * 2 + 1, none⟩ = some (.int .i64 x2)) ∧ RcO rb R3 W5 ∧ Fr (fun k => k = rb) wq W5)) := by
              have t := HPut.out wq.drew R2 At x1 hpk (by omega) hx1 (by omega) HD12.out
              rw [hR3] at t
              refine t.mono ?_
              rintro e V' ⟨h1, W5, h2, K⟩
              have d0 : Nw wq wq.drew := (Fr.refl _ _).drew
              have f1 : Fr (fun k => k = rb) wq V' := Fr.mono (Nw.trans d0 K.out.1) (fun i hi => hi.elim)
              have f2 : Fr (fun k => k = rb) wq W5 := (Fr.mono d0 (fun i hi => hi.elim)).trans K.out.2.2.1
              exact ⟨h1, W5, h2, HS.out _ f1, K.out.2.1, HS.out _ f2, K.out.2.2.2, f2⟩
            have HP13 : Hid (∀ W5, RcO rb R3 W5 → Fr (fun k => k = rb) wq W5 → Calls Tryd.prog 36 #[.agg (rc R3), .int .i64 (A12 : Int), .int .i64 D] W5.drew fun e V' => e = .returned (.tuple #[.agg (rc R4), .bool true]) ∧ ∃ W8, V'.setRow rb (rc R4) = W8 ∧ Hid ((Fr (fun k => k = rb) W1 V' ∧ V'.cell? ⟨lg, lo + I * 2, none⟩ = some (.int .i64 x1) ∧ V'.cell? ⟨lg, lo + I * 2 + 1, none⟩ = some (.int .i64 x2)) ∧ V'.heap[rb]? = some (.cells (rc R3) 36) ∧ (Fr (fun k => k = rb) W1 W8 ∧ W8.cell? ⟨lg, lo + I * 2, none⟩ = some (.int .i64 x1) ∧ W8.cell? ⟨lg, lo + I * 2 + 1, none⟩ = some (.int .i64 x2)) ∧ RcO rb (pto R f (smT l (I + 1))) W8)) := fun W5 hr5 f5 => by
              have d0 : Nw W5 W5.drew := (Fr.refl _ _).drew
              have t := HPut.out W5.drew R3 A12 D l3 (by omega) (by omega) (by omega) (Nw.heap d0 hr5)
              rw [hR4] at t
              refine t.mono ?_
              rintro e V' ⟨h1, W8, h2, K⟩
              have f1 : Fr (fun k => k = rb) wq V' := f5.trans (Fr.mono (Nw.trans d0 K.out.1) (fun i hi => hi.elim))
              have f2 : Fr (fun k => k = rb) wq W8 := f5.trans ((Fr.mono d0 (fun i hi => hi.elim)).trans K.out.2.2.1)
              exact ⟨h1, W8, h2, HS.out _ f1, K.out.2.1, HS.out _ f2, by rw [← HYes2.out]; exact K.out.2.2.2⟩
            have HRD : Hid (∀ W5, RcO rb R3 W5 → W5.drew.heap[rb]? = some (.cells (rc R3) 36)) := fun W5 h => Nw.heap ((Fr.refl _ _).drew) h
            clear HYes HYes2 hR2 hR3 hR4 p12 p13 l3 l4 hA12 HK hpk hcell hx HPut HEN0 hlg hkx2 HRI HL HOK hK1 hky hpl hsl
            generalize rc R2 = C2 at *
            generalize hC3 : rc R3 = C3 at *
            generalize rc R4 = C4 at *
            clear R4
            go_upto_region 12 with fail
            refine wp_region_held_drew (S := fun U => Fr (fun k => k = rb) W1 U ∧ U.cell? ⟨lg, lo + I * 2, none⟩ = some (.int .i64 x1) ∧ U.cell? ⟨lg, lo + I * 2 + 1, none⟩ = some (.int .i64 x2)) (by kernel_rfl) ?_ (fun hHeld => ?_)
            · exact HS.out _ ((Fr.refl _ _).drew)
            refine wpAnyH_take (i := 1) (oi := { dst := some 39, op := Op.move (Operand.tmp 12), type := 3, pos := "ref.go:206", after := #[], guard := none }) (v := ?_) rfl (by kernel_rfl) (by kernel_rfl) (by kernel_rfl) (fun _ _ _ h => h) (Or.inl ⟨by rfl, ?_⟩) (by assumption) ?_
            rotate_left
            · intro U hSw; obtain ⟨hSw0, hSw1, hSw2⟩ := hSw; (go_simp <;> with_reducible rfl)
            try simp only [Act.put, List.setIfInBounds_toArray, List.set_cons_zero, List.set_cons_succ]
            refine wpAnyH_take (i := 2) (oi := { dst := some 40, op := Op.move (Operand.tmp 3), type := 22, pos := "ref.go:206", after := #[], guard := none }) (v := ?_) rfl (by kernel_rfl) (by kernel_rfl) (by kernel_rfl) (fun _ _ _ h => h) (Or.inl ⟨by rfl, ?_⟩) (by assumption) ?_
            rotate_left
            · intro U hSw; obtain ⟨hSw0, hSw1, hSw2⟩ := hSw; (go_simp <;> with_reducible rfl)
            try simp only [Act.put, List.setIfInBounds_toArray, List.set_cons_zero, List.set_cons_succ]
            refine wpAnyH_take (i := 3) (oi := { dst := some 41, op := Op.move (Operand.tmp 11), type := 3, pos := "ref.go:206", after := #[], guard := none }) (v := ?_) rfl (by kernel_rfl) (by kernel_rfl) (by kernel_rfl) (fun _ _ _ h => h) (Or.inl ⟨by rfl, ?_⟩) (by assumption) ?_
            rotate_left
            · intro U hSw; obtain ⟨hSw0, hSw1, hSw2⟩ := hSw; (go_simp <;> with_reducible rfl)
            try simp only [Act.put, List.setIfInBounds_toArray, List.set_cons_zero, List.set_cons_succ]
            refine wpAnyH_take (i := 4) (oi := { dst := some 42, op := Op.indexAddr 22 (Operand.tmp 40) (Operand.tmp 41), type := 0, pos := "ref.go:206", after := #[{ on := 2, ground := Ground.data }, { on := 3, ground := Ground.data }], guard := none }) (v := ?_) rfl (by kernel_rfl) (by kernel_rfl) (by kernel_rfl) (fun _ _ _ h => h) (Or.inl ⟨by rfl, ?_⟩) (by assumption) ?_
            rotate_left
            · intro U hSw; obtain ⟨hSw0, hSw1, hSw2⟩ := hSw; (go_simp <;> with_reducible rfl)
            try simp only [Act.put, List.setIfInBounds_toArray, List.set_cons_zero, List.set_cons_succ]
            refine wpAnyH_take (i := 5) (oi := { dst := some 43, op := Op.fieldAddr 51 (Operand.tmp 42) 0, type := 0, pos := "ref.go:206", after := #[{ on := 4, ground := Ground.data }], guard := none }) (v := ?_) rfl (by kernel_rfl) (by kernel_rfl) (by kernel_rfl) (fun _ _ _ h => h) (Or.inl ⟨by rfl, ?_⟩) (by assumption) ?_
            rotate_left
            · intro U hSw; obtain ⟨hSw0, hSw1, hSw2⟩ := hSw; (go_simp <;> with_reducible rfl)
            try simp only [Act.put, List.setIfInBounds_toArray, List.set_cons_zero, List.set_cons_succ]
            refine wpAnyH_take (i := 6) (oi := { dst := some 44, op := Op.load 2 (Operand.tmp 43), type := 2, pos := "ref.go:206", after := #[{ on := 5, ground := Ground.data }], guard := none }) (v := ?_) rfl (by kernel_rfl) (by kernel_rfl) (by kernel_rfl) (fun _ _ _ h => h) (Or.inl ⟨by rfl, ?_⟩) (by assumption) ?_
            rotate_left
            · intro U hSw; obtain ⟨hSw0, hSw1, hSw2⟩ := hSw; (go_simp <;> with_reducible rfl)
            try simp only [Act.put, List.setIfInBounds_toArray, List.set_cons_zero, List.set_cons_succ]
            refine wpAnyH_ready (rs := [0]) (by kernel_rfl) (by simp) ?_
            refine AllReadyH.cons (o := { dst := some 38, op := Op.load 36 (Operand.tmp 4), type := 36, pos := "ref.go:206", after := #[], guard := none }) rfl (fun K hK => ?_) AllReadyH.nil
            rw [if_pos (by rfl)]
            refine wp_load_row 36 _ rfl rb (by first | rfl | simp [Act.eval]) 36 _ (0, 0) _ HD12.out Tryd.underlying36 rfl HI12.out ?_
            refine hK.out _ _ (by assumption) (fun _ => ?_)
            clear hK K
            try simp only [Act.put, List.setIfInBounds_toArray, List.set_cons_zero, List.set_cons_succ]
            refine wpAnyH_ready (rs := [7]) (by kernel_rfl) (by simp) ?_
            refine AllReadyH.cons (o := { dst := some 45, op := Op.call { callee := Callee.value (Operand.func 36), args := #[Operand.tmp 38, Operand.tmp 39, Operand.tmp 44], argTypes := #[36, 3, 2] }, type := 67, pos := "ref.go:206", after := #[{ on := 0, ground := Ground.data }, { on := 1, ground := Ground.data }, { on := 6, ground := Ground.data }], guard := none }) rfl (fun K hK => ?_) AllReadyH.nil
            go_simp
            go_at_call 36; with_reducible refine HP12.out.mono ?_; rintro e w3 ⟨rfl, W5, e5, K5⟩
            (try go_wp2_with fail)
            refine hK.out _ _ ?_ (fun hHeld3 => ?_)
            · exact K5.out.1
            clear hK K
            try simp only [Act.put, List.setIfInBounds_toArray, List.set_cons_zero, List.set_cons_succ]
            refine wpAnyH_take (i := 8) (oi := { dst := some 37, op := Op.move (Operand.tmp 45), type := 67, pos := "ref.go:206", after := #[{ on := 7, ground := Ground.data }], guard := none }) (v := ?_) rfl (by kernel_rfl) (by kernel_rfl) (by kernel_rfl) (fun _ _ _ h => h) (Or.inl ⟨by rfl, ?_⟩) (by assumption) ?_
            rotate_left
            · intro U hSw; obtain ⟨hSw0, hSw1, hSw2⟩ := hSw; (go_simp <;> with_reducible rfl)
            try simp only [Act.put, List.setIfInBounds_toArray, List.set_cons_zero, List.set_cons_succ]
            refine wpAnyH_take (i := 9) (oi := { dst := some 46, op := Op.extract (Operand.tmp 37) 0, type := 36, pos := "ref.go:206", after := #[{ on := 8, ground := Ground.data }], guard := none }) (v := ?_) rfl (by kernel_rfl) (by kernel_rfl) (by kernel_rfl) (fun _ _ _ h => h) (Or.inl ⟨by rfl, ?_⟩) (by assumption) ?_
            rotate_left
            · intro U hSw; obtain ⟨hSw0, hSw1, hSw2⟩ := hSw; (go_simp <;> with_reducible rfl)
            try simp only [Act.put, List.setIfInBounds_toArray, List.set_cons_zero, List.set_cons_succ]
            refine wpAnyH_take (i := 10) (oi := { dst := some 47, op := Op.extract (Operand.tmp 37) 1, type := 4, pos := "ref.go:206", after := #[{ on := 8, ground := Ground.data }, { on := 11, ground := Ground.gcOnly Departure.lateStores }], guard := none }) (v := ?_) rfl (by kernel_rfl) (by kernel_rfl) (by kernel_rfl) (fun _ _ _ h => h) (Or.inl ⟨by rfl, ?_⟩) (by assumption) ?_
            rotate_left
            · intro U hSw; obtain ⟨hSw0, hSw1, hSw2⟩ := hSw; (go_simp <;> with_reducible rfl)
            try simp only [Act.put, List.setIfInBounds_toArray, List.set_cons_zero, List.set_cons_succ]
            refine wpAnyH_ready (rs := [11]) (by kernel_rfl) (by simp) ?_
            refine AllReadyH.cons (o := { dst := none, op := Op.store 36 (Operand.tmp 4) (Operand.tmp 46), type := 0, pos := "ref.go:206", after := #[{ on := 9, ground := Ground.data }, { on := 7, ground := Ground.chain }, { on := 0, ground := Ground.phase }, { on := 1, ground := Ground.phase }, { on := 2, ground := Ground.phase }, { on := 3, ground := Ground.phase }, { on := 4, ground := Ground.phase }, { on := 5, ground := Ground.phase }, { on := 6, ground := Ground.phase }, { on := 7, ground := Ground.phase }, { on := 8, ground := Ground.phase }, { on := 9, ground := Ground.phase }, { on := 10, ground := Ground.textOnly Departure.lateStores }], guard := none }) rfl (fun K hK => ?_) AllReadyH.nil
            rw [if_pos (by rfl)]
            refine wp_store_row 36 _ _ rfl rb C3 (by first | rfl | simp [Act.eval]) (by first | rfl | simp [Act.eval]) 36 _ K5.out.2.1 HN12.out.1 HN12.out.2.1 HN12.out.2.2 ?_
            rw [e5]
            refine hK.out _ _ ?_ (fun hHeld5 => ?_)
            · exact K5.out.2.2.1
            clear hK K
            try simp only [Act.put, List.setIfInBounds_toArray, List.set_cons_zero, List.set_cons_succ]
            refine wpAnyH_take (i := 12) (oi := { dst := some 14, op := Op.assign (Operand.tmp 47), type := 4, pos := "ref.go:206", after := #[{ on := 10, ground := Ground.data }, { on := 11, ground := Ground.chain }, { on := 0, ground := Ground.phase }, { on := 1, ground := Ground.phase }, { on := 2, ground := Ground.phase }, { on := 3, ground := Ground.phase }, { on := 4, ground := Ground.phase }, { on := 5, ground := Ground.phase }, { on := 6, ground := Ground.phase }, { on := 7, ground := Ground.phase }, { on := 8, ground := Ground.phase }, { on := 9, ground := Ground.phase }, { on := 10, ground := Ground.phase }, { on := 11, ground := Ground.phase }], guard := none }) (v := ?_) rfl (by kernel_rfl) (by kernel_rfl) (by kernel_rfl) (fun _ _ _ h => h) (Or.inl ⟨by rfl, ?_⟩) (by assumption) ?_
            rotate_left
            · intro U hSw; obtain ⟨hSw0, hSw1, hSw2⟩ := hSw; (go_simp <;> with_reducible rfl)
            try simp only [Act.put, List.setIfInBounds_toArray, List.set_cons_zero, List.set_cons_succ]
            refine wpAnyH_done (by kernel_rfl) ?_ _
            go_upto_region 13 with fail
            have HP13 := tHid (HP13.out W5 K5.out.2.2.2.1 K5.out.2.2.2.2)
            have HD13 := tHid (HRD.out W5 K5.out.2.2.2.1)
            have HS3 : Hid (∀ U, Fr (fun k => k = rb) W5 U → Fr (fun k => k = rb) W1 U ∧ U.cell? ⟨lg, lo + I * 2, none⟩ = some (.int .i64 x1) ∧ U.cell? ⟨lg, lo + I * 2 + 1, none⟩ = some (.int .i64 x2)) := fun U hU => HS.out _ (K5.out.2.2.2.2.trans hU)
            clear HS HP12 HD12 HI12 HN12 hHeld hHeld3 hHeld5 HRD
            refine wp_region_held_drew (S := fun U => Fr (fun k => k = rb) W1 U ∧ U.cell? ⟨lg, lo + I * 2, none⟩ = some (.int .i64 x1) ∧ U.cell? ⟨lg, lo + I * 2 + 1, none⟩ = some (.int .i64 x2)) (by kernel_rfl) ?_ (fun hHeld => ?_)
            · exact HS3.out _ ((Fr.refl _ _).drew)
            refine wpAnyH_take (i := 1) (oi := { dst := some 50, op := Op.move (Operand.tmp 12), type := 3, pos := "ref.go:207", after := #[], guard := none }) (v := ?_) rfl (by kernel_rfl) (by kernel_rfl) (by kernel_rfl) (fun _ _ _ h => h) (Or.inl ⟨by rfl, ?_⟩) (by assumption) ?_
            rotate_left
            · intro U hSw; obtain ⟨hSw0, hSw1, hSw2⟩ := hSw; (go_simp <;> with_reducible rfl)
            try simp only [Act.put, List.setIfInBounds_toArray, List.set_cons_zero, List.set_cons_succ]
            refine wpAnyH_take (i := 2) (oi := { dst := some 51, op := Op.binOp BinOp.add 3 (Operand.tmp 50) (Operand.const (Value.int IntKind.i64 12)) 3, type := 3, pos := "ref.go:207", after := #[{ on := 1, ground := Ground.data }], guard := none }) (v := ?_) rfl (by kernel_rfl) (by kernel_rfl) (by kernel_rfl) (fun _ _ _ h => h) (Or.inl ⟨by rfl, ?_⟩) (by assumption) ?_
            rotate_left
            · intro U hSw; obtain ⟨hSw0, hSw1, hSw2⟩ := hSw; (go_simp <;> with_reducible rfl)
            try simp only [Act.put, List.setIfInBounds_toArray, List.set_cons_zero, List.set_cons_succ]
            refine wpAnyH_take (i := 3) (oi := { dst := some 52, op := Op.move (Operand.tmp 3), type := 22, pos := "ref.go:207", after := #[], guard := none }) (v := ?_) rfl (by kernel_rfl) (by kernel_rfl) (by kernel_rfl) (fun _ _ _ h => h) (Or.inl ⟨by rfl, ?_⟩) (by assumption) ?_
            rotate_left
            · intro U hSw; obtain ⟨hSw0, hSw1, hSw2⟩ := hSw; (go_simp <;> with_reducible rfl)
            try simp only [Act.put, List.setIfInBounds_toArray, List.set_cons_zero, List.set_cons_succ]
            refine wpAnyH_take (i := 4) (oi := { dst := some 53, op := Op.move (Operand.tmp 11), type := 3, pos := "ref.go:207", after := #[], guard := none }) (v := ?_) rfl (by kernel_rfl) (by kernel_rfl) (by kernel_rfl) (fun _ _ _ h => h) (Or.inl ⟨by rfl, ?_⟩) (by assumption) ?_
            rotate_left
            · intro U hSw; obtain ⟨hSw0, hSw1, hSw2⟩ := hSw; (go_simp <;> with_reducible rfl)
            try simp only [Act.put, List.setIfInBounds_toArray, List.set_cons_zero, List.set_cons_succ]
            refine wpAnyH_take (i := 5) (oi := { dst := some 54, op := Op.indexAddr 22 (Operand.tmp 52) (Operand.tmp 53), type := 0, pos := "ref.go:207", after := #[{ on := 3, ground := Ground.data }, { on := 4, ground := Ground.data }], guard := none }) (v := ?_) rfl (by kernel_rfl) (by kernel_rfl) (by kernel_rfl) (fun _ _ _ h => h) (Or.inl ⟨by rfl, ?_⟩) (by assumption) ?_
            rotate_left
            · intro U hSw; obtain ⟨hSw0, hSw1, hSw2⟩ := hSw; (go_simp <;> with_reducible rfl)
            try simp only [Act.put, List.setIfInBounds_toArray, List.set_cons_zero, List.set_cons_succ]
            refine wpAnyH_take (i := 6) (oi := { dst := some 55, op := Op.fieldAddr 51 (Operand.tmp 54) 1, type := 0, pos := "ref.go:207", after := #[{ on := 5, ground := Ground.data }], guard := none }) (v := ?_) rfl (by kernel_rfl) (by kernel_rfl) (by kernel_rfl) (fun _ _ _ h => h) (Or.inl ⟨by rfl, ?_⟩) (by assumption) ?_
            rotate_left
            · intro U hSw; obtain ⟨hSw0, hSw1, hSw2⟩ := hSw; (go_simp <;> with_reducible rfl)
            try simp only [Act.put, List.setIfInBounds_toArray, List.set_cons_zero, List.set_cons_succ]
            refine wpAnyH_take (i := 7) (oi := { dst := some 56, op := Op.load 2 (Operand.tmp 55), type := 2, pos := "ref.go:207", after := #[{ on := 6, ground := Ground.data }], guard := none }) (v := ?_) rfl (by kernel_rfl) (by kernel_rfl) (by kernel_rfl) (fun _ _ _ h => h) (Or.inl ⟨by rfl, ?_⟩) (by assumption) ?_
            rotate_left
            · intro U hSw; obtain ⟨hSw0, hSw1, hSw2⟩ := hSw; (go_simp <;> with_reducible rfl)
            try simp only [Act.put, List.setIfInBounds_toArray, List.set_cons_zero, List.set_cons_succ]
            refine wpAnyH_take (i := 8) (oi := { dst := some 57, op := Op.move (Operand.tmp 3), type := 22, pos := "ref.go:207", after := #[], guard := none }) (v := ?_) rfl (by kernel_rfl) (by kernel_rfl) (by kernel_rfl) (fun _ _ _ h => h) (Or.inl ⟨by rfl, ?_⟩) (by assumption) ?_
            rotate_left
            · intro U hSw; obtain ⟨hSw0, hSw1, hSw2⟩ := hSw; (go_simp <;> with_reducible rfl)
            try simp only [Act.put, List.setIfInBounds_toArray, List.set_cons_zero, List.set_cons_succ]
            refine wpAnyH_take (i := 9) (oi := { dst := some 58, op := Op.move (Operand.tmp 11), type := 3, pos := "ref.go:207", after := #[], guard := none }) (v := ?_) rfl (by kernel_rfl) (by kernel_rfl) (by kernel_rfl) (fun _ _ _ h => h) (Or.inl ⟨by rfl, ?_⟩) (by assumption) ?_
            rotate_left
            · intro U hSw; obtain ⟨hSw0, hSw1, hSw2⟩ := hSw; (go_simp <;> with_reducible rfl)
            try simp only [Act.put, List.setIfInBounds_toArray, List.set_cons_zero, List.set_cons_succ]
            refine wpAnyH_take (i := 10) (oi := { dst := some 59, op := Op.indexAddr 22 (Operand.tmp 57) (Operand.tmp 58), type := 0, pos := "ref.go:207", after := #[{ on := 8, ground := Ground.data }, { on := 9, ground := Ground.data }], guard := none }) (v := ?_) rfl (by kernel_rfl) (by kernel_rfl) (by kernel_rfl) (fun _ _ _ h => h) (Or.inl ⟨by rfl, ?_⟩) (by assumption) ?_
            rotate_left
            · intro U hSw; obtain ⟨hSw0, hSw1, hSw2⟩ := hSw; (go_simp <;> with_reducible rfl)
            try simp only [Act.put, List.setIfInBounds_toArray, List.set_cons_zero, List.set_cons_succ]
            refine wpAnyH_take (i := 11) (oi := { dst := some 60, op := Op.fieldAddr 51 (Operand.tmp 59) 0, type := 0, pos := "ref.go:207", after := #[{ on := 10, ground := Ground.data }], guard := none }) (v := ?_) rfl (by kernel_rfl) (by kernel_rfl) (by kernel_rfl) (fun _ _ _ h => h) (Or.inl ⟨by rfl, ?_⟩) (by assumption) ?_
            rotate_left
            · intro U hSw; obtain ⟨hSw0, hSw1, hSw2⟩ := hSw; (go_simp <;> with_reducible rfl)
            try simp only [Act.put, List.setIfInBounds_toArray, List.set_cons_zero, List.set_cons_succ]
            refine wpAnyH_take (i := 12) (oi := { dst := some 61, op := Op.load 2 (Operand.tmp 60), type := 2, pos := "ref.go:207", after := #[{ on := 11, ground := Ground.data }], guard := none }) (v := ?_) rfl (by kernel_rfl) (by kernel_rfl) (by kernel_rfl) (fun _ _ _ h => h) (Or.inl ⟨by rfl, ?_⟩) (by assumption) ?_
            rotate_left
            · intro U hSw; obtain ⟨hSw0, hSw1, hSw2⟩ := hSw; (go_simp <;> with_reducible rfl)
            try simp only [Act.put, List.setIfInBounds_toArray, List.set_cons_zero, List.set_cons_succ]
            refine wpAnyH_take (i := 13) (oi := { dst := some 62, op := Op.binOp BinOp.sub 2 (Operand.tmp 56) (Operand.tmp 61) 2, type := 2, pos := "ref.go:207", after := #[{ on := 7, ground := Ground.data }, { on := 12, ground := Ground.data }], guard := none }) (v := ?_) rfl (by kernel_rfl) (by kernel_rfl) (by kernel_rfl) (fun _ _ _ h => h) (Or.inl ⟨by rfl, ?_⟩) (by assumption) ?_
            rotate_left
            · intro U hSw; obtain ⟨hSw0, hSw1, hSw2⟩ := hSw; (go_simp <;> with_reducible rfl)
            try simp only [Act.put, List.setIfInBounds_toArray, List.set_cons_zero, List.set_cons_succ]
            refine wpAnyH_ready (rs := [0]) (by kernel_rfl) (by simp) ?_
            refine AllReadyH.cons (o := { dst := some 49, op := Op.load 36 (Operand.tmp 4), type := 36, pos := "ref.go:207", after := #[], guard := none }) rfl (fun K hK => ?_) AllReadyH.nil
            rw [if_pos (by rfl)]
            refine wp_load_row 36 _ rfl rb (by first | rfl | simp [Act.eval]) 36 _ (0, 0) _ HD13.out Tryd.underlying36 rfl HI13.out ?_
            refine hK.out _ _ (by assumption) (fun _ => ?_)
            clear hK K
            try simp only [Act.put, List.setIfInBounds_toArray, List.set_cons_zero, List.set_cons_succ]
            refine wpAnyH_ready (rs := [14]) (by kernel_rfl) (by simp) ?_
            refine AllReadyH.cons (o := { dst := some 63, op := Op.call { callee := Callee.value (Operand.func 36), args := #[Operand.tmp 49, Operand.tmp 51, Operand.tmp 62], argTypes := #[36, 3, 2] }, type := 67, pos := "ref.go:207", after := #[{ on := 0, ground := Ground.data }, { on := 2, ground := Ground.data }, { on := 13, ground := Ground.data }], guard := none }) rfl (fun K hK => ?_) AllReadyH.nil
            go_simp
            go_at_call 36; with_reducible refine HP13.out.mono ?_; rintro e w6 ⟨rfl, W8, e8, K8⟩
            (try go_wp2_with fail)
            refine hK.out _ _ ?_ (fun hHeld6 => ?_)
            · exact K8.out.1
            clear hK K
            try simp only [Act.put, List.setIfInBounds_toArray, List.set_cons_zero, List.set_cons_succ]
            refine wpAnyH_take (i := 15) (oi := { dst := some 48, op := Op.move (Operand.tmp 63), type := 67, pos := "ref.go:207", after := #[{ on := 14, ground := Ground.data }], guard := none }) (v := ?_) rfl (by kernel_rfl) (by kernel_rfl) (by kernel_rfl) (fun _ _ _ h => h) (Or.inl ⟨by rfl, ?_⟩) (by assumption) ?_
            rotate_left
            · intro U hSw; obtain ⟨hSw0, hSw1, hSw2⟩ := hSw; (go_simp <;> with_reducible rfl)
            try simp only [Act.put, List.setIfInBounds_toArray, List.set_cons_zero, List.set_cons_succ]
            refine wpAnyH_take (i := 16) (oi := { dst := some 64, op := Op.extract (Operand.tmp 48) 0, type := 36, pos := "ref.go:207", after := #[{ on := 15, ground := Ground.data }], guard := none }) (v := ?_) rfl (by kernel_rfl) (by kernel_rfl) (by kernel_rfl) (fun _ _ _ h => h) (Or.inl ⟨by rfl, ?_⟩) (by assumption) ?_
            rotate_left
            · intro U hSw; obtain ⟨hSw0, hSw1, hSw2⟩ := hSw; (go_simp <;> with_reducible rfl)
            try simp only [Act.put, List.setIfInBounds_toArray, List.set_cons_zero, List.set_cons_succ]
            refine wpAnyH_take (i := 17) (oi := { dst := some 65, op := Op.extract (Operand.tmp 48) 1, type := 4, pos := "ref.go:207", after := #[{ on := 15, ground := Ground.data }, { on := 18, ground := Ground.gcOnly Departure.lateStores }], guard := none }) (v := ?_) rfl (by kernel_rfl) (by kernel_rfl) (by kernel_rfl) (fun _ _ _ h => h) (Or.inl ⟨by rfl, ?_⟩) (by assumption) ?_
            rotate_left
            · intro U hSw; obtain ⟨hSw0, hSw1, hSw2⟩ := hSw; (go_simp <;> with_reducible rfl)
            try simp only [Act.put, List.setIfInBounds_toArray, List.set_cons_zero, List.set_cons_succ]
            refine wpAnyH_ready (rs := [18]) (by kernel_rfl) (by simp) ?_
            refine AllReadyH.cons (o := { dst := none, op := Op.store 36 (Operand.tmp 4) (Operand.tmp 64), type := 0, pos := "ref.go:207", after := #[{ on := 16, ground := Ground.data }, { on := 14, ground := Ground.chain }, { on := 0, ground := Ground.phase }, { on := 1, ground := Ground.phase }, { on := 2, ground := Ground.phase }, { on := 3, ground := Ground.phase }, { on := 4, ground := Ground.phase }, { on := 5, ground := Ground.phase }, { on := 6, ground := Ground.phase }, { on := 7, ground := Ground.phase }, { on := 8, ground := Ground.phase }, { on := 9, ground := Ground.phase }, { on := 10, ground := Ground.phase }, { on := 11, ground := Ground.phase }, { on := 12, ground := Ground.phase }, { on := 13, ground := Ground.phase }, { on := 14, ground := Ground.phase }, { on := 15, ground := Ground.phase }, { on := 16, ground := Ground.phase }, { on := 17, ground := Ground.textOnly Departure.lateStores }], guard := none }) rfl (fun K hK => ?_) AllReadyH.nil
            rw [if_pos (by rfl)]
            refine wp_store_row 36 _ _ rfl rb C4 (by first | rfl | simp [Act.eval]) (by first | rfl | simp [Act.eval]) 36 _ K8.out.2.1 HN13.out.1 HN13.out.2.1 HN13.out.2.2 ?_
            rw [e8]
            refine hK.out _ _ ?_ (fun hHeld8 => ?_)
            · exact K8.out.2.2.1
            clear hK K
            try simp only [Act.put, List.setIfInBounds_toArray, List.set_cons_zero, List.set_cons_succ]
            refine wpAnyH_take (i := 19) (oi := { dst := some 15, op := Op.assign (Operand.tmp 65), type := 4, pos := "ref.go:207", after := #[{ on := 17, ground := Ground.data }, { on := 18, ground := Ground.chain }, { on := 0, ground := Ground.phase }, { on := 1, ground := Ground.phase }, { on := 2, ground := Ground.phase }, { on := 3, ground := Ground.phase }, { on := 4, ground := Ground.phase }, { on := 5, ground := Ground.phase }, { on := 6, ground := Ground.phase }, { on := 7, ground := Ground.phase }, { on := 8, ground := Ground.phase }, { on := 9, ground := Ground.phase }, { on := 10, ground := Ground.phase }, { on := 11, ground := Ground.phase }, { on := 12, ground := Ground.phase }, { on := 13, ground := Ground.phase }, { on := 14, ground := Ground.phase }, { on := 15, ground := Ground.phase }, { on := 16, ground := Ground.phase }, { on := 17, ground := Ground.phase }, { on := 18, ground := Ground.phase }], guard := none }) (v := ?_) rfl (by kernel_rfl) (by kernel_rfl) (by kernel_rfl) (fun _ _ _ h => h) (Or.inl ⟨by rfl, ?_⟩) (by assumption) ?_
            rotate_left
            · intro U hSw; obtain ⟨hSw0, hSw1, hSw2⟩ := hSw; (go_simp <;> with_reducible rfl)
            try simp only [Act.put, List.setIfInBounds_toArray, List.set_cons_zero, List.set_cons_succ]
            refine wpAnyH_done (by kernel_rfl) ?_ _
            go_wp2_with fail
            go_roundg (r - (I + 1))
            case measure => omega
            case rel => exact ⟨I + 1, by omega, by omega, rfl, by first | rfl | (congr 1), K8.out.2.2.2, hHeld8.1⟩
          · have q2' : (l.length : Int) ≤ (I : Int) := by omega
            have HNo := tHid (some_no R hR f l HOK.out I (by omega) (by omega))
            rw [HR1e.out, hAt] at HNo
            rw [HNo.out] at HK
            clear HNo hpk
            go_wp2_with fail
            go_roundg (r - (I + 1))
            case measure => omega
            case rel => exact ⟨I + 1, by omega, by omega, rfl, by first | rfl | (congr 1), HK.out.1, HK.out.2⟩
    · have hRr : pto R f (smT l r) = pto R f (smT l I) := by
        have : I = r := by omega
        rw [this]
      have hq5 := HQ1.out.keptF HI.out.2 (fun e => by omega)
      obtain ⟨W5, e5⟩ : ∃ W5, wr.setRow qb (rc (pto R f (smT l I))) = W5 := ⟨_, rfl⟩
      have hq6 : RcO qb (pto R f (smT l I)) W5 := by rw [← e5]; exact setRow_heap _ _ _ _ 36 _ hq5
      have hn6 : Nw w W5 := by
        rw [← e5]
        exact (Fr.then HN1.out HI.out.2 (fun i hi => .inr (by omega))).setRow _ _ (.inr (by omega))
      have Y1 := tHid HI.out.1
      have Y2 := tHid (rc_info (pto R f (smT l I)) hpl)
      have Y3 := tHid hq5
      have Y4 : Hid ((rc zrec).size = (rc (pto R f (smT l I))).size) := by show _ = _; rw [rc_size, rc_size, zrec_length, hpl]
      have Y5 := tHid (rc_one (pto R f (smT l I)))
      have HE := tHid (HEN0.out W5 (pto R f (smT l I)) hpl hn6 hq6 hRr)
      clear HI hq5 hq6 hn6 hpl HEN0 hRr
      generalize pto R f (smT l I) = R5 at *
      have hp : ¬ (I : Int) < (r : Int) := by omega
      go_wp2_with (first
        | (refine wpList_load_row rfl 36 _ rfl rb (by first | rfl | simp [Act.eval]) 36 _ (0, 0) _ Y1.out Tryd.underlying36 rfl Y2.out ?_)
        | (refine wpList_store_row rfl 36 _ _ rfl qb (rc R5) (by first | rfl | simp [Act.eval]) (by first | rfl | simp [Act.eval]) 36 _ Y3.out Y2.out Y4.out Y5.out ?_; rw [e5]))
      (try simp only [Exit.inBlock, Exit.then])
      exact HE.out _ rfl rfl
end Go.Proofs.YtffhpoilifgcdaaDoor
