import Derived.Maps.OwnIn
import Derived.Test.YtlenihpbhlfcoaaGreatDoorUbz
import Derived.Test.YtlenihpbhlfcoaaGreatDoorUbg
set_option maxHeartbeats 8000000
set_option maxRecDepth 100000
set_option linter.unusedSimpArgs false
set_option linter.unusedVariables false
namespace Go.Proofs.YtlenihpbhlfcoaaGreatDoor
open Go.RowKit Go.Shelf
attribute [local go_sem] Oper.semAt_some
def mgO (l : List Pr) (sk : List Bs) : List Pr := sk.filterMap (fun k => match fndV l k with | some v => if v = [] then none else some (k, v) | none => none)
theorem mgO_snoc (l : List Pr) (sk : List Bs) (k v : Bs) (h : fndV l k = some v) : mgO l (sk ++ [k]) = if v = [] then mgO l sk else mgO l sk ++ [(k, v)] := by
 unfold mgO;rw [List.filterMap_append];by_cases hv : v = []
 ·simp [h, hv]
 ·simp [h, hv]
theorem mgO_len (l : List Pr) (sk : List Bs) : (mgO l sk).length ≤ sk.length := List.length_filterMap_le _ _
theorem mgO_mem (l : List Pr) (sk : List Bs) (y : Pr) : y ∈ mgO l sk ↔ y.1 ∈ sk ∧ fndV l y.1 = some y.2 ∧ y.2 ≠ [] := by
 unfold mgO;rw [List.mem_filterMap];constructor
 ·rintro ⟨k, hk, h⟩;cases hf : fndV l k with
  | none => rw [hf] at h; cases h
  | some v =>
   rw [hf] at h;simp only at h;split at h
   ·cases h
   ·rename_i hv;injection h with h;subst h;exact ⟨hk, hf, hv⟩
 ·rintro ⟨h1, h2, h3⟩;exact ⟨y.1, h1, by rw [h2]; simp [h3]⟩
theorem mgO_rise (l : List Pr) (sk : List Bs) (h : sk.Pairwise (fun x y => (str x).toList < (str y).toList)) : Rise (mgO l sk) := by
 unfold Rise
 induction sk with
 | nil => exact List.Pairwise.nil
 | cons k r ih =>
  obtain ⟨h1, h2⟩ := List.pairwise_cons.1 h;have e : mgO l (k :: r) = mgO l [k] ++ mgO l r := by
   unfold mgO;rw [← List.filterMap_append]; rfl
  rw [e, List.pairwise_append];refine ⟨?_, ih h2, fun x hx y hy => ?_⟩
  ·have : (mgO l [k]).length ≤ 1 := mgO_len l [k]
   match hq : mgO l [k], this with
   | [], _ => exact List.Pairwise.nil
   | [x], _ => exact List.pairwise_singleton _ _
  ·have hx1 := ((mgO_mem l [k] x).1 hx).1;have hy1 := ((mgO_mem l r y).1 hy).1;rw [List.mem_singleton] at hx1;rw [hx1];exact h1 _ hy1
theorem mgO_merge (b a : List Pr) (sk : List Bs) (h : sk.Pairwise (fun x y => (str x).toList < (str y).toList)) (hm : ∀ k, k ∈ sk ↔ k ∈ dk (b ++ a)) : mgO (b ++ a) sk = mergeV b a := by
 refine rise_ext _ _ (mgO_rise _ _ h) (merge_rise b a) (fun y => ?_);rw [mgO_mem, mem_merge, hm, dk_mem];constructor
 ·exact fun h => h.2
 ·exact fun h => ⟨by rw [h.1]; rfl, h⟩
theorem fr_grown {W W' : World} {row : Option Nat} (h : W.grownBy W' row) : Fr (fun k => row = some k) W W' := ⟨h.os, h.tape, h.output, h.size, fun k hk hne => h.block k hk (fun e => hne e.symm)⟩
theorem ownFrom_mpL (mb B : Nat) (hB : mb < B) : OwnFrom B (fun (pre : List PrS) W => MpL mb (pre.map Subtype.val) W) := fun s W W' row hs hg hr => MpL.kept hs (fr_grown hg) (fun e => by have := (hr mb e).1; omega)
theorem ownFrom_bel {β : Type} (mb B : Nat) (W0 : World) (hB : B ≤ W0.heap.size) : OwnFrom B (fun (_ : β) W => Bel mb B W0 W) := fun s W W' row hs hg hr =>
 hs.trans ⟨hg.os, hg.tape, hg.output, hg.size, fun k hk _ => hg.block k (by have := hs.size; omega) (fun e => by have := (hr k e.symm).1; omega)⟩
theorem newHeapP (w : World) (o : Obj) : (w.alloc o).heap[w.heap.size]? = some o := by
 show (w.heap.push o)[w.heap.size]? = _;simp
theorem pr_field (x y : ByteArray) (W : World) : (Instr.field 56 (.agg #[.string x, .string y]) 1).run Tryz.prog W = .ok (.string y) W := by kernel_rfl
def InB (v : Value) (n : Nat) : Prop := ∀ g o n' c, v = .slice (some ⟨g, o, none⟩) n' c → 0 < n' → g < n
theorem SlR.lt' {v : Value} {l : List Pr} {w : World} (h : SlR RP (fun _ => False) v l w) : InB v w.heap.size := fun g o n c e hn => by
 obtain ⟨a', c', e', _⟩ := h.form;rw [e'] at e;injection e with e1 e2 e3;subst e1 e2;rw [e'] at h;obtain ⟨g', o', e4, _, q0, _⟩ := rp_at h 0 hn;injection e4 with e4;injection e4 with e4 e5;subst e4;unfold World.cell? at q0;rcases Nat.lt_or_ge g w.heap.size with hl | hl
 ·exact hl
 ·simp only at q0;rw [Array.getElem?_eq_none hl] at q0;cases q0
theorem slr_out {v : Value} {l : List Pr} {w : World} {mb n : Nat} (h : SlR RP (fun _ => False) v l w) (hi : InB v n) (hn : n ≤ mb) (V : World) (hV : Fr (fun k => k = mb) w V) : SlR RP (fun _ => False) v l V := by
 rcases h with ⟨a, e, hl⟩ | ⟨g, o, c, h1, rfl, h3, h4, h5⟩
 ·exact .inl ⟨a, e, hl⟩
 ·by_cases h0 : 0 < l.length
  ·have := hi g o l.length c rfl h0;exact .inr ⟨g, o, c, fun h => h, rfl, h3, h4, h5.kept hV (by omega)⟩
  ·have hl : l = [] := List.eq_nil_of_length_eq_zero (by omega);subst hl;exact .inr ⟨g, o, c, fun h => h, rfl, h3, h4, fun i x j v hx => by simp at hx⟩
theorem merge_in (w : World) (ab : Option Addr) (cb : Nat) (aa : Option Addr) (ca : Nat) (b a : List Pr) (hb : SlR RP (fun _ => False) (.slice ab b.length cb) b w) (ha : SlR RP (fun _ => False) (.slice aa a.length ca) a w) (hn : b.length + a.length ≤ 100000000) (hk : ∀ x ∈ b ++ a, x.1.length ≤ 140737488351232) :
  CallsIn Fence.wide 6 Tryz.prog 60 #[.slice ab b.length cb, .slice aa a.length ca] w fun e V => ∃ v, e = .returned v ∧ Hid (Nw w V ∧ ∃ og, OgR RP og v (mergeV b a) V ∧ ∀ g, og = some g → w.heap.size ≤ g) := by
 have hmm := @run_makeMap Tryz.prog;have hbl : b.length ≤ 100000000 := by omega
 refine callsIn_of_wp_marks Tryz.func60 rfl trivial ?_ rfl;simp only [Tryz.ntmps60, List.size_toArray, List.length_cons, List.length_nil, Nat.reduceAdd, Nat.reduceSub, Array.replicate_succ, Array.replicate_zero, List.push_toArray, List.append_toArray, List.nil_append, List.cons_append]
 gi_wp2_with (refine ⟨trivial, ?_⟩; gi_at_call 97; refine (turn_in _ _ _ _ _).mono ?_; rintro e w' ⟨rfl, rfl⟩)
 obtain ⟨mb, hmb⟩ : ∃ mb, w.heap.size = mb := ⟨_, rfl⟩;have bM : MpL mb [] (((((w.alloc (.map #[] 0)).alloc (.cells #[.map (some w.heap.size)] 157)).alloc (.cells #[.slice ab b.length cb, .slice aa a.length ca] 34))).alloc (.cells #[.slice (some ⟨w.heap.size + 1 + 1, 0, none⟩) 2 2] 197)) := by
  rw [← hmb];exact MpL.kept (X := fun _ => False) (mpL_made w) ((((Fr.refl _ _).alloc _).alloc _).alloc _) (fun h => h)
 have bL := ((Boxed.new (w.alloc (.map #[] 0)) 157 (.map (some w.heap.size))).alloc (.cells #[.slice ab b.length cb, .slice aa a.length ca] 34)).alloc (.cells #[.slice (some ⟨w.heap.size + 1 + 1, 0, none⟩) 2 2] 197);have bG := Nw.heap ((Fr.refl _ _).alloc (.cells #[.slice (some ⟨w.heap.size + 1 + 1, 0, none⟩) 2 2] 197)) (newHeapP ((w.alloc (.map #[] 0)).alloc (.cells #[.map (some w.heap.size)] 157)) (.cells #[.slice ab b.length cb, .slice aa a.length ca] 34))
 have bS := Boxed.new (((w.alloc (.map #[] 0)).alloc (.cells #[.map (some w.heap.size)] 157)).alloc (.cells #[.slice ab b.length cb, .slice aa a.length ca] 34)) 197 (.slice (some ⟨w.heap.size + 1 + 1, 0, none⟩) 2 2);simp only [World.size_alloc] at bL bG bS;have hN0 : Nw w (((((w.alloc (.map #[] 0)).alloc (.cells #[.map (some w.heap.size)] 157)).alloc (.cells #[.slice ab b.length cb, .slice aa a.length ca] 34))).alloc (.cells #[.slice (some ⟨w.heap.size + 1 + 1, 0, none⟩) 2 2] 197)) := ((((Fr.refl _ _).alloc _).alloc _).alloc _).alloc _
 have hsz : (((((w.alloc (.map #[] 0)).alloc (.cells #[.map (some w.heap.size)] 157)).alloc (.cells #[.slice ab b.length cb, .slice aa a.length ca] 34))).alloc (.cells #[.slice (some ⟨w.heap.size + 1 + 1, 0, none⟩) 2 2] 197)).heap.size = w.heap.size + 4 := by simp
 obtain ⟨W0, hW0⟩ : ∃ W0, (((((w.alloc (.map #[] 0)).alloc (.cells #[.map (some w.heap.size)] 157)).alloc (.cells #[.slice ab b.length cb, .slice aa a.length ca] 34))).alloc (.cells #[.slice (some ⟨w.heap.size + 1 + 1, 0, none⟩) 2 2] 197)) = W0 := ⟨_, rfl⟩;rw [hW0] at bM bL bG bS hN0 hsz ⊢;clear hW0;have hb0 := slr_out (mb := mb) (hb.nw hN0) hb.lt' (by omega);have ha0 := slr_out (mb := mb) (ha.nw hN0) ha.lt' (by omega);rw [hmb] at bL bG bS hsz ⊢;have g0 : W0.cell? ⟨mb + 1 + 1, 0, none⟩ = some (.slice ab b.length cb) := by simp [World.cell?, bG]
 have g1 : W0.cell? ⟨mb + 1 + 1, 1, none⟩ = some (.slice aa a.length ca) := by simp [World.cell?, bG]
 refine wpIn_rangeFunc_ownH (α := PrS) rfl (by decide) (gf := 120) (lb := #[.pointer (some ⟨mb + 1 + 1 + 1, 0, none⟩)]) rfl trivial (enters_of Tryz.func120 (by kernel_rfl) rfl)
  (turn_stops _ (by decide) (mb + 1 + 1 + 1) (mb + 1 + 1) mb (by omega) _ _ b a (by omega) hk W0 (by omega) (by omega) bS.cell g0 g1 hb0 ha0) (fun h k => h.trans k) (fun W l o o' hl h _ _ => Bel.of (belowK_b (w := W0) (Nat.le_refl _) W l o o' hl h (by assumption) (by assumption))) (Below.refl _ _) (fun _ => rfl)
  (fun pre W => MpL mb (pre.map Subtype.val) W ∧ Bel mb W0.heap.size W0 W)
  (fun c pre W => False)
  (OwnFrom.and (ownFrom_mpL mb _ (by omega)) (ownFrom_bel mb _ W0 (Nat.le_refl _)))
  (fun _ _ _ _ _ hs _ _ => hs)
  ⟨bM, Bel.refl _ _ _⟩
  (fun x a' W => ∃ Bx, W0.heap.size ≤ Bx ∧ (W.heap[Bx]? = some (.cells (prC x.1) 56)) ∧ a' = { tmps := #[.slice ab b.length cb, .slice aa a.length ca, undef, undef, .slice none 0 0, .pointer (some ⟨mb + 1, 0, none⟩), .pointer (some ⟨Bx, 0, none⟩), undef, undef, undef, .map (some mb), .slice ab b.length cb, .slice aa a.length ca, .slice (some ⟨mb + 1 + 1, 0, none⟩) 2 2, .func (.func 120) #[] #[.pointer (some ⟨mb + 1 + 1 + 1, 0, none⟩)], .agg (prC x.1), undef, undef, undef, undef, undef, undef, undef, undef, undef, undef, undef, undef, undef, undef, undef, undef, undef, undef, undef, undef, undef, undef, undef, undef, undef], defers := [] })
  ?hAx ?assign ?body ?done ?stop
 case hAx =>
  intro x a' u X Y row hs hg hr;obtain ⟨Bx, p1, p2, p3⟩ := hs;refine ⟨Bx, p1, (hg.block Bx (Array.getElem?_eq_some_iff.1 p2).1 (fun e' => ?_)).trans p2, p3⟩;obtain ⟨_, o, ho, hc⟩ := hr Bx e'.symm;rw [p2] at ho;cases ho;cases hc
 case assign =>
  rintro lp pre ⟨⟨xk, xv⟩, hx⟩ W K ⟨hp, hB⟩ hK;have hsW := hB.size;simp only [prC] at hK ⊢
  gi_wp2
  exact hK _ _ ((KeepsOthers.alloc _ _).from _) (Bel.of ((Below.refl _ W).alloc hsW _)) ⟨hp.kept (X := fun _ => False) ((Fr.refl _ _).alloc _) (fun h => h), hB.alloc hsW _⟩ ⟨W.heap.size, by omega, World.alloc_heap_new W _, rfl⟩
 case body =>
  rintro lp pre x a' W hlp _ ⟨hp, hB⟩ ⟨Bx, hBx, hx, rfl⟩ hlt;have hsW := hB.size;have bL1 : Boxed W (mb + 1) 157 (.map (some mb)) := (hB.block _ (by omega) (by omega)).trans bL;have cL := bL1.cell;have c0 : W.cell? ⟨Bx, 0, none⟩ = some (.string (str x.1.1)) := by unfold World.cell?; rw [hx]; rfl
  have c1 : W.cell? ⟨Bx, 1, none⟩ = some (.string (str x.1.2)) := by unfold World.cell?; rw [hx]; rfl
  obtain ⟨W', r1, r2, r3⟩ := hp.store x.1 x.2 (by rw [List.length_map]; omega);unfold prC at r1
  gi_wp2
  refine ⟨⟨r3.size, fun k o hk h _ => (r3.block k (Array.getElem?_eq_some_iff.1 h).1 (by omega)).trans h⟩, ⟨r3.os, r3.tape, r3.output, r3.size, fun k hk hm => r3.block k (by omega) hm⟩, ?_, hB.trans ⟨r3.os, r3.tape, r3.output, r3.size, fun k hk hm => r3.block k (by omega) hm⟩⟩;rw [List.map_append];exact r2
 case done =>
  rintro D ys W hD hys ⟨hp, hB⟩ hK;rw [hys] at hp;have bL1 : Boxed W (mb + 1) 157 (.map (some mb)) := (hB.block _ (by omega) (by omega)).trans bL;have cL := bL1.cell;have hDl : D < W.heap.size := (Array.getElem?_eq_some_iff.1 hK).1;have hNW : Nw w W := hN0.then hB.fr (fun i hi => .inr (by omega))
  have HRET : Hid (∀ V v og tmps, Nw W V → OgR RP og v (mergeV b a) V → (∀ g, og = some g → W.heap.size ≤ g) → tmps.getD 4 undef = v → bodyPostM Fence.wide 6 Tryz.prog Tryz.f60 (fun e V => ∃ v, e = .returned v ∧ Hid (Nw w V ∧ ∃ og, OgR RP og v (mergeV b a) V ∧ ∀ g, og = some g → mb ≤ g)) .ret { tmps := tmps, defers := [{ target := .collected D, args := #[] }] } V) := fun V v og tmps h1 h2 h3 h4 => by
   have hKV : V.heap[D]? = some (.deferred (some [])) := Nw.heap h1 hK;refine ⟨by simp, .inl ⟨_, _, rfl, run_takeDeferred hKV, ?_⟩⟩;have f1 : Fr (fun k => k = D) V (V.putObj D (.deferred none)) := (fr_grown (grownBy_putObj' V D (.deferred none))).mono (fun i hi => .inl (by injection hi with hi; exact hi.symm));refine ⟨v, ?_, ⟨v, rfl, (hNW.trans h1).then f1 (fun i hi => .inr (by omega)), og, h2.kept f1 (fun g e e2 => by have := h3 g e; omega), fun g e => by have := h3 g e; have := hNW.size; omega⟩⟩;simp at h4;simp [results, Tryz.f60, go_sem, h4]
  rename_i Q' K hK0;have hQ' : Q' = bodyPostM Fence.wide 6 Tryz.prog Tryz.f60 (fun e V => ∃ v, e = .returned v ∧ Hid (Nw w V ∧ ∃ og, OgR RP og v (mergeV b a) V ∧ ∀ g, og = some g → mb ≤ g)) := by
   rw [← hmb]
  rw [← hQ'] at HRET;clear hQ'
  clear_value Q'
  refine hK0 _ _ (wpIn_wide.2 ?_)
  dsimp only
  clear hK0;obtain ⟨l, hl⟩ : ∃ l, b ++ a = l := ⟨_, rfl⟩;have hll : l.length ≤ 100000000 := by rw [← hl, List.length_append]; exact hn
  have hmg : ∀ sk : List Bs, sk.Pairwise (fun x y => (str x).toList < (str y).toList) → (∀ k, k ∈ sk ↔ k ∈ dk l) → mgO l sk = mergeV b a := fun sk h1 h2 => by
   rw [← hl];exact mgO_merge b a sk h1 (by rw [hl]; exact h2)
  rw [hl] at hp hk;have HP := tHid hp;have HK := tHid hk;have HMG := tHid hmg;have HKY := tHid (keysP_call (some mb) W);have HSO := tHid (sortedP_call hp hk (by omega));unfold KsP at HSO;clear hp hk hmg hK hB bM bL bG bS hN0 hsz hb0 ha0 g0 g1 hb ha hys hl bL1 hNW hDl hD hmm
  go_wp2_with (first
   | (go_at_call 99; with_reducible refine HKY.out.mono ?_; rintro e w4 ⟨rfl, rfl⟩)
   | (go_at_call 98; with_reducible refine HSO.out.mono ?_; rintro e w5 ⟨sk, a5, c5, rfl, i1, i2, i3, i4, i5, i6, i7⟩))
  have HN5 := tHid i3;have HSK := tHid i4;have HSM := tHid i5;have HSC := tHid i7;have cL5 := Nw.cell i3 cL;have hskl : sk.length ≤ 100000000 := by omega
  clear i3 i4 i5 i7 HKY HSO cL;go_loopg [7, 24] sk.length (fun kx v i wr => ∃ (j : Nat) (og : Option Nat) (a7 : Option Addr) (n7 c7 : Nat), j ≤ sk.length ∧ sk.length - j ≤ kx ∧ i = .int .i64 (j : Int) ∧ v = .slice a7 n7 c7 ∧ Hid (OgR RP og (.slice a7 n7 c7) (mgO l (sk.take j)) wr ∧ (∀ g, og = some g → w5.heap.size ≤ g) ∧ Nw w5 wr))
  case atStart => exact ⟨0, none, none, 0, 0, by omega, by omega, rfl, rfl, ⟨rfl, by simp [mgO]⟩, (fun g e => by cases e), Fr.refl _ _⟩
  case round =>
   obtain ⟨j, og, a7, n7, c7, hj, hkx, rfl, rfl, HI⟩ := hrel;have cLr := Nw.cell HI.out.2.2 cL5;by_cases hlt : j < sk.length
   ·have hlti : (j : Int) < (sk.length : Int) := by omega
    obtain ⟨g5, rfl, hg5, ck⟩ := HSC.out j hlt;have ckr := Nw.cell HI.out.2.2 ck;obtain ⟨k, hkk⟩ : ∃ k, sk[j] = k := ⟨_, rfl⟩;rw [hkk] at ckr;have hkd : k ∈ dk l := (HSM.out k).1 (by rw [← hkk]; exact List.getElem_mem hlt);obtain ⟨v, hv⟩ := Option.isSome_iff_exists.1 ((dk_mem l k).1 hkd);have hkl : k.length ≤ 140737488351232 := by
     obtain ⟨x, hx, e⟩ := mem_key l k hkd;rw [← e]; exact HK.out x hx
    have hPr : MpL mb l wr := HP.out.kept (X := fun _ => False) (HN5.out.trans HI.out.2.2) (fun h => h);have hlk := hPr.look k hkl v hv;unfold prC at hlk;simp only at hlk;have hfd := pr_field (str k) (str v);have bq := str_emp2 v;have htk : sk.take (j + 1) = sk.take j ++ [k] := by rw [List.take_add_one, List.getElem?_eq_getElem hlt, hkk]; rfl
    have hsn := mgO_snoc l (sk.take j) k v hv;rw [← htk] at hsn;by_cases hv0 : v = []
    ·rw [decide_eq_true hv0] at bq;rw [if_pos hv0] at hsn;have HNX : Hid (OgR RP og (.slice a7 n7 c7) (mgO l (sk.take (j + 1))) wr ∧ (∀ g, og = some g → w5.heap.size ≤ g) ∧ Nw w5 wr) := by rw [hsn]; exact HI
     clear HI HP HK HMG HSC HSM hkk ck hkd hv hkl hPr htk hsn hv0
     go_wp2_with fail
     go_roundg (sk.length - (j + 1))
     case measure => omega
     case rel => exact ⟨j + 1, og, a7, n7, c7, by omega, by omega, by first | rfl | simp, rfl, HNX⟩
    ·rw [decide_eq_false hv0] at bq;rw [if_neg hv0] at hsn;have hln : (mgO l (sk.take j)).length ≤ 1000000000 := by
      have := mgO_len l (sk.take j);rw [List.length_take] at this;omega
     obtain ⟨og', v', W7, a1, a2, a3, a4⟩ := pushP wr og _ (mgO l (sk.take j)) HI.out.1 hln (k, v);rw [← hsn] at a2;have hfr : ∀ g, og = some g → w5.heap.size ≤ g := HI.out.2.1;have hN7 : Nw w5 W7 := HI.out.2.2.then a3 (fun i hi => .inr (hfr i hi));have hfr' : ∀ g, og' = some g → w5.heap.size ≤ g := fun g e => by
      rcases a4 with h | ⟨g', e', hg'⟩
      ·exact hfr g (by rw [← h]; exact e)
      ·rw [e'] at e;injection e with e;have := HI.out.2.2.size; omega
     obtain ⟨a8, c8, rfl, m1, m2⟩ := a2.form;have HNX : Hid (OgR RP og' (.slice a8 (mgO l (sk.take (j + 1))).length c8) (mgO l (sk.take (j + 1))) W7 ∧ (∀ g, og' = some g → w5.heap.size ≤ g) ∧ Nw w5 W7) := ⟨a2, hfr', hN7⟩;clear HI HP HK HMG HSC HSM hkk ck hkd hv hkl hPr htk hsn hv0 a2 a3 a4 hN7 hfr hfr' m1 m2 hln;generalize (mgO l (sk.take (j + 1))).length = n8 at *;unfold prC at a1;simp only at a1
     go_wp2_with (first
      | (at_builtin; refine Lib.wpList_append_run _ rfl _ _ 34 34 rfl (.slice a7 n7 c7) (.slice (some ⟨wr.heap.size, 0, none⟩) 1 1) (by first | rfl | simp [Act.eval]) (by first | rfl | simp [Act.eval]) _ _ (a1.out _) ?_))
     go_roundg (sk.length - (j + 1))
     case measure => omega
     case rel => exact ⟨j + 1, og', a8, n8, c8, by omega, by omega, by first | rfl | simp, rfl, HNX⟩
   ·have hje : j = sk.length := by omega
    subst hje;have HE : Hid (OgR RP og (.slice a7 n7 c7) (mergeV b a) wr ∧ (∀ g, og = some g → W.heap.size ≤ g) ∧ Nw W wr) := by
     have h1 := HI.out;rw [List.take_length, HMG.out sk HSK.out HSM.out] at h1;exact ⟨h1.1, fun g e => Nat.le_trans HN5.out.size (h1.2.1 g e), HN5.out.trans h1.2.2⟩
    clear HI HP HK HMG HSC HSM
    go_wp2_with fail
    exact HRET.out wr _ og _ HE.out.2.2 HE.out.1 HE.out.2.1 rfl
 case stop =>
  rintro D c pre W _ _ h _;exact h.elim
theorem merge_any {X Y : Nat → Prop} (w : World) (va vb : Value) (b a : List Pr) (hb : SlR RP X va b w) (ha : SlR RP Y vb a w) (hn : b.length + a.length ≤ 10000000) (hk : ∀ x ∈ b ++ a, x.1.length ≤ 140737488351232) :
  Calls Tryz.prog 60 #[va, vb] w fun e V => ∃ v, e = .returned v ∧ Hid (Nw w V ∧ ∃ og, OgR RP og v (mergeV b a) V ∧ ∀ g, og = some g → w.heap.size ≤ g) := by
 obtain ⟨ab, cb, rfl, _⟩ := hb.form;obtain ⟨aa, ca, rfl, _⟩ := ha.form;exact (callsIn_wide (n := 6)).1 (merge_in w ab cb aa ca b a hb.anyP ha.anyP (by omega) hk)
end Go.Proofs.YtlenihpbhlfcoaaGreatDoor
namespace Go.Proofs.YtlenihpbhlfcoaaGreatDoor
open Go.RowKit
variable {Y : Nat → Prop} {rb : Nat} {va : Option Addr} {vc : Nat} {b : List By} {p : Nat} {vG : Value} {G : List Pr} {w : World}
def NewP (w : World) (v : Value) (l : List Pr) (V : World) : Prop := ∃ og, OgR RP og v l V ∧ ∀ g, og = some g → w.heap.size ≤ g
theorem clonePr_any {X : Nat → Prop} (w : World) (a : Option Addr) (n c : Nat) (l : List Pr) (h : SlR RP X (.slice a n c) l w) (hl : l.length ≤ 1000000000) : Calls Tryz.prog 20 #[.slice a n c] w fun e w' => ∃ v, e = .returned v ∧ Hid (Nw w w' ∧ NewP w v l w') := by
 refine asP fun P hP => ?_
 cases a with
 | none =>
  have hl0 : l = [] ∧ n = 0 ∧ c = 0 := by
   rcases h with ⟨a', e, e2⟩ | ⟨g, o, c', _, e, _⟩
   ·injection e with e1 e3 e4; exact ⟨e2, e3, e4⟩
   ·injection e with e1 _ _; cases e1
  obtain ⟨rfl, rfl, rfl⟩ := hl0;have HF : Hid (P (.returned (.slice none 0 0)) w) := by rw [hP]; exact ⟨_, rfl, Fr.refl _ _, none, ⟨rfl, rfl⟩, fun g hg => by cases hg⟩
  have hnil : ∀ w, (binOp BinOp.eql 34 (.slice none 0 0) (.slice none 0 0)).run Tryz.prog w = .ok (.bool true) w := fun _ => by kernel_rfl
  clear hP h hl;go_enter Tryz.func20, Tryz.ntmps20
  go_wp2_with fail
  exact HF.out
 | some x =>
  have hN : Nw w (w.alloc (.cells #[] 56)) := (Fr.refl _ _).alloc _;obtain ⟨v', g', W, k1, k2, k3, k4⟩ := owR_app rpOk (w.alloc (.cells #[] RP.T)) w.heap.size _ [] (OwR.empty w) (.slice (some x) n c) l ((h.nw hN).mono (fun _ h => h.elim)) (by simp only [RP, List.length_nil]; omega) (by simp only [List.length_nil]; omega);rw [List.nil_append] at k2;have hF : P (.returned v') W := by
   rw [hP];refine ⟨_, rfl, Fr.then hN k3 (fun i hi => .inr (by omega)), some g', k2, fun g2 hg => ?_⟩;injection hg with hg;subst hg;rcases k4 with h | h
   ·omega
   ·have : (w.alloc (.cells #[] RP.T)).heap.size = w.heap.size + 1 := by simp
    omega
  obtain ⟨c', e2', _, _⟩ := k2.form;subst e2';have HF := tHid hF;obtain ⟨ln, hln⟩ : ∃ ln, l.length = ln := ⟨_, rfl⟩;rw [hln] at HF k1;have HAP : Hid (∀ ty, (Builtin.append_ #[34, 34] ty #[.slice (some ⟨w.heap.size, 0, none⟩) 0 0, .slice (some x) n c]).run Tryz.prog (w.alloc (.cells #[] 56)) = .ok (.slice (some ⟨g', 0, none⟩) ln c') W) := k1;clear k1 k2 k3 k4 hP hF hN h hln;have hnil : ∀ w, (binOp BinOp.eql 34 (.slice (some x) n c) (.slice none 0 0)).run Tryz.prog w = .ok (.bool false) w := fun _ => by kernel_rfl
  go_enter Tryz.func20, Tryz.ntmps20
  go_wp2_with (first
   | (at_builtin; refine Lib.wpList_append_run _ rfl _ _ 34 34 rfl (.slice (some ⟨w.heap.size, 0, none⟩) 0 0) (.slice (some x) n c) (by first | rfl | simp [Act.eval]) (by first | rfl | simp [Act.eval]) _ _ (HAP.out _) ?_))
  exact HF.out
theorem qGlobals_any (h : Rm Y rb va vc b p vG G w) (hG : G.length ≤ 1000000000) : Calls Tryz.prog 15 #[.pointer (some ⟨rb, 0, none⟩)] w fun e w' => ∃ v, e = .returned v ∧ Hid (Nw w w' ∧ NewP w v G w') := by
 refine asP fun P hP => ?_
 have HF : Hid (∀ v V, Hid (Nw w V ∧ NewP w v G V) → P (.returned v) V) := fun v V h => by rw [hP]; exact ⟨v, rfl, h⟩
 have c2 := h.cells.2.2.2.1;obtain ⟨a, c, e⟩ := ps_form h.gl;subst e;have HC := tHid (clonePr_any w a G.length c G h.gl hG);clear hP h hG;generalize G.length = n at *;go_enter Tryz.func15, Tryz.ntmps15
 go_wp2_with (first | (go_at_call 20; with_reducible refine HC.out.mono ?_; rintro e w2 ⟨v, rfl, K2⟩))
 exact HF.out _ _ K2
def KyB (P : List Pr) : Prop := ∀ x ∈ P, x.1.length ≤ 140737488351232
theorem qholding_any {X : Nat → Prop} (h : Rm Y rb va vc b p vG G w) (hG : G.length ≤ 1024) (vL : Value) (A : Ah) (hL : SlR RP X vL A.loc w) (hA : A.loc.length ≤ 1024) (hk : KyB (G ++ A.loc)) : Calls Tryz.prog 53 #[.pointer (some ⟨rb, 0, none⟩), vL] w fun e w' => ∃ v, e = .returned v ∧ Hid (Nw w w' ∧ NewP w v (hdP G A) w') := by
 refine asP fun P hP => ?_
 have HF : Hid (∀ v V, Hid (Nw w V ∧ NewP w v (hdP G A) V) → P (.returned v) V) := fun v V h => by rw [hP]; exact ⟨v, rfl, h⟩
 have c2 := h.cells.2.2.2.1;obtain ⟨a, c, e⟩ := ps_form hL;subst e;have HC := tHid (qGlobals_any h (by omega));have HM := tHid (merge_any w vG (.slice a A.loc.length c) G A.loc h.gl hL (by omega) hk);obtain ⟨aG, cG, eG⟩ := ps_form h.gl;subst eG;unfold hdP at HF;clear hP h hL;by_cases h0 : A.loc = []
 ·rw [if_pos h0] at HF;have hz : A.loc.length = 0 := by rw [h0]; rfl
  rw [hz];clear HM h0;go_enter Tryz.func53, Tryz.ntmps53
  go_wp2_with (first | (go_at_call 15; with_reducible refine HC.out.mono ?_; rintro e w2 ⟨v, rfl, K2⟩))
  exact HF.out _ _ K2
 ·rw [if_neg h0] at HF;have hz : ¬ (A.loc.length : Int) = 0 := by
   intro e;exact h0 (List.eq_nil_of_length_eq_zero (by omega))
  clear HC h0;generalize A.loc.length = m at *;generalize G.length = n at *;go_enter Tryz.func53, Tryz.ntmps53
  go_wp2_with (first | (go_at_call 60; with_reducible refine HM.out.mono ?_; rintro e w2 ⟨v, rfl, K2⟩))
  exact HF.out _ _ K2
end Go.Proofs.YtlenihpbhlfcoaaGreatDoor
