import Derived.Test.YtincbbnppcpfpaaDoorUam
namespace Go.Proofs.YtincbbnppcpfpaaDoor
open Go.RowKit
set_option linter.unusedVariables false
/-- A code that is made. -/
structure CodeI (cb gw gs : Nat) (ls : List Nat) (ws : List (Nat × Nat)) (ss : List Int) (w : World) : Prop where
  c : CdM cb gw gs ls.length (nwd ls) (fr ls) ws ss w
  W : ∀ i, i < ls.length → ws[i]? = some (wdP ls i)
  S : ∀ i, i < ls.length → ls.getD i 0 ≠ 0 → ss[ps ls i]? = some (i : Int)
theorem CodeI.kept {cb gw gs : Nat} {ls : List Nat} {ws : List (Nat × Nat)} {ss : List Int} {w w' : World} {X : Nat → Prop} (h : CodeI cb gw gs ls ws ss w) (k : Fr X w w') (h1 : ¬ X cb) (h2 : ¬ X gw) (h3 : ¬ X gs) : CodeI cb gw gs ls ws ss w' := ⟨h.c.kept k h1 h2 h3, h.W, h.S⟩
theorem CodeI.nw {cb gw gs : Nat} {ls : List Nat} {ws : List (Nat × Nat)} {ss : List Int} {w w' : World} (h : CodeI cb gw gs ls ws ss w) (k : Nw w w') : CodeI cb gw gs ls ws ss w' := ⟨h.c.nw k, h.W, h.S⟩
set_option maxHeartbeats 16000000 in
set_option maxRecDepth 100000 in
theorem eachWord_any (w : World) (v : Value) (ls : List Nat) (hk : Cod ls) (cb gw gs pb : Nat) (ws : List (Nat × Nat)) (ss : List Int) (h : SlR RI (fun k => k = gw ∨ k = gs ∨ w.heap.size ≤ k) v (toI ls) w)
    (hc : CdM cb gw gs ls.length (nwd ls) (fr ls) ws ss w) (hW : ∀ i, i < ls.length → ws[i]? = some (0, 0)) (hp : w.heap[pb]? = some (.cells #[.pointer (some ⟨cb, 0, none⟩)] 57)) (n1 : pb ≠ gw) (n2 : pb ≠ gs) :
    Calls Tryd.prog 98 #[v, .agg (rowC (fr ls)), .func (.func 99) #[] #[.pointer (some ⟨pb, 0, none⟩)]] w fun e w' => (∃ r, e = .returned r) ∧ (∃ ws' ss', CodeI cb gw gs ls ws' ss' w') ∧ w'.heap[pb]? = some (.cells #[.pointer (some ⟨cb, 0, none⟩)] 57) ∧ Fr (fun k => k = gw ∨ k = gs) w w' := by
  obtain ⟨P, hP⟩ : ∃ P : Ending → World → Prop, P = fun e w' => (∃ r, e = .returned r) ∧ (∃ ws' ss', CodeI cb gw gs ls ws' ss' w') ∧ w'.heap[pb]? = some (.cells #[.pointer (some ⟨cb, 0, none⟩)] 57) ∧ Fr (fun k => k = gw ∨ k = gs) w w' := ⟨_, rfl⟩
  rw [← hP]
  have HS : Hid (SlR RI (fun k => k = gw ∨ k = gs ∨ w.heap.size ≤ k) v (toI ls) w) := h
  obtain ⟨a, c, rfl, hca, hc2, hcc⟩ := h.form
  rw [toI_length] at hca ⊢
  have hN : Nw w (w.alloc (.cells (rowC (fr ls)) 125)) := (Fr.refl _ _).alloc _
  obtain ⟨l1, l2, l3⟩ := hc.lt
  have hpl : pb < w.heap.size := (Array.getElem?_eq_some_iff.1 hp).1
  have HI0 : Hid (∃ ws ss, EwI w cb gw gs pb w.heap.size ls.length (nwd ls) (fr ls) ls 0 0 ws ss (w.alloc (.cells (rowC (fr ls)) 125))) := by
    refine ⟨ws, ss, hc.nw hN, fun i hi => by rw [if_neg (by omega)]; exact hW i hi, fun i hi => by omega, hN.heap hp, ?_, n1, n2, by omega, by omega, by omega, by omega, Nat.le_refl _, hN.any⟩
    rw [new_heap]
    congr 2
  have HK : Hid (Cod ls) := hk
  have HF : Hid (∀ r W ws ss, EwI w cb gw gs pb w.heap.size ls.length (nwd ls) (fr ls) ls ls.length ls.length ws ss W → P (.returned r) W) := fun r W ws' ss' hE => by
    rw [hP]
    exact ⟨⟨_, rfl⟩, ⟨ws', ss', hE.c, fun i hi => by rw [hE.W i hi, if_pos hi], fun i hi hn => hE.S i hi hi hn⟩, hE.p, hE.fr⟩
  have HB : Hid (∀ V, Fr (fun k => k = gw ∨ k = gs) w V → ∀ I, I < ls.length → ∃ g o, a = some ⟨g, o, none⟩ ∧ V.cell? ⟨g, o + I, none⟩ = some (.int .i64 (ls.getD I 0 : Nat))) := fun V hV I hI => by
    obtain ⟨g, o, e, hg, hcell⟩ := ri_at HS.out I _ (toI_at ls I hI)
    exact ⟨g, o, e, hV.cellv hcell (fun hx => hg (by rcases hx with e | e; exact .inl e; exact .inr (.inl e)))⟩
  have hlen := hk.len
  clear hP h hc hW hp hN HS l1 l2 l3 hpl hk
  generalize hL : ls.length = L at *
  have hL' : Hid (ls.length = L) := hL
  clear hL
  generalize hMM : nwd ls = M at *
  have hM' : Hid (nwd ls = M) := hMM
  clear hMM
  generalize hA : rowC (fr ls) = A at *
  clear hA
  go_enter Tryd.func98, Tryd.ntmps98
  go_upto_region 1 with fail
  generalize w.alloc (.cells A 125) = w1 at *
  obtain ⟨eb, heb⟩ : ∃ e, e = w.heap.size := ⟨_, rfl⟩
  rw [← heb] at HI0 HF
  rw [← heb]
  clear heb
  go_wp2_with fail
  go_loopg [10] L (fun kx i wr => ∃ (I : Nat), I ≤ L ∧ L - I ≤ kx ∧ i = .int .i64 I ∧ Hid (∃ ws ss, EwI w cb gw gs pb eb L M (fr ls) ls I I ws ss wr))
  case atStart => exact ⟨0, by omega, by omega, rfl, HI0⟩
  case round =>
    obtain ⟨I, hI, hkx, rfl, HI⟩ := hrel
    clear HI0
    obtain ⟨ws1, ss1, hE⟩ := HI.out
    by_cases hlt : I < L
    · have hIl : I < ls.length := by rw [hL'.out]; exact hlt
      obtain ⟨g, o, rfl, hcell⟩ := HB.out wr hE.fr I (by omega)
      have hz : (I : Int) < (L : Int) := by omega
      obtain ⟨m, hm⟩ : ∃ m, ls.getD I 0 = m := ⟨_, rfl⟩
      have h15 : m ≤ 15 := by rw [← hm]; exact HK.out.each I
      rw [hm] at hcell
      clear HB HF
      by_cases hm0 : m = 0
      · subst hm0
        have HN : Hid (∃ ws ss, EwI w cb gw gs pb eb L M (fr ls) ls (I + 1) (I + 1) ws ss wr) := ⟨_, _, hE.skip hIl hL'.out hm⟩
        clear HI hE hm
        go_wp2_with fail
        go_roundg (L - (I + 1))
        case measure => omega
        case rel => exact ⟨I + 1, by omega, by omega, by first | rfl | (congr 1), HN⟩
      · obtain ⟨x, hx⟩ : ∃ x, x = rev m (cd ls I) := ⟨_, rfl⟩
        have HTL := hE.tell HK.out hIl hL'.out hM'.out m hm hm0 x hx
        obtain ⟨r1, r2⟩ := fe_rk ls I m hm hm0
        have c2 := (hE.cell m 2 (by omega) (by omega)).1
        have c1 := (hE.cell m 1 (by omega) (by omega)).1
        rw [r1] at c2
        rw [r2] at c1
        have hcd := (HK.out.cd_lt I hIl (by rw [hm]; exact hm0)).2
        rw [hm] at hcd
        have hcd2 : cd ls I < 32768 := Nat.lt_of_lt_of_le hcd (Nat.pow_le_pow_right (n := 2) (by decide) h15)
        have HTU : Hid (Calls Tryd.prog 91 #[.int .u32 (cd ls I), .int .i64 m] wr.drew fun e w' => e = .returned (.int .u32 x) ∧ w'.cell? ⟨eb, m * 3 + 2, none⟩ = some (.int .i64 (ps ls I)) ∧ w'.cell? ⟨eb, m * 3 + 1, none⟩ = some (.int .i64 (cd ls I)) ∧ w' = wr.drew) := by
          refine (turned_any (cd ls I) m (by omega) (by omega) wr.drew).mono ?_
          rintro e w' ⟨rfl, rfl⟩
          exact ⟨by rw [hx], c2, c1, rfl⟩
        have HNX : Hid (∀ w1 ws ss, EwI w cb gw gs pb eb L M (fr ls) ls (I + 1) I ws ss w1 → w1.frozen? ⟨eb, m * 3 + 2, none⟩ = false ∧ (w1.setCell ⟨eb, m * 3 + 2, none⟩ (.int .i64 ((ps ls I : Int) + 1))).cell? ⟨eb, m * 3 + 1, none⟩ = some (.int .i64 (cd ls I)) ∧ (w1.setCell ⟨eb, m * 3 + 2, none⟩ (.int .i64 ((ps ls I : Int) + 1))).frozen? ⟨eb, m * 3 + 1, none⟩ = false ∧ EwI w cb gw gs pb eb L M (fr ls) ls (I + 1) (I + 1) ws ss ((w1.setCell ⟨eb, m * 3 + 2, none⟩ (.int .i64 ((ps ls I : Int) + 1))).setCell ⟨eb, m * 3 + 1, none⟩ (.int .i64 ((cd ls I : Int) + 1)))) := fun w1 ws ss h => h.next HK.out hIl m hm hm0
        have hpsb : ps ls I ≤ 1000000 := by
          have h1 := HK.out.ps_lt I hIl (by rw [hm]; exact hm0)
          have h2 := hE.c.ml
          rw [hM'.out] at h1
          omega
        have c2d : wr.drew.cell? ⟨eb, m * 3 + 2, none⟩ = some (.int .i64 (ps ls I)) := c2
        have c1d : wr.drew.cell? ⟨eb, m * 3 + 1, none⟩ = some (.int .i64 (cd ls I)) := c1
        have hcw : IntKind.u32.wrap ((cd ls I : Nat) : Int) = (cd ls I : Int) := by rw [IntKind.wrap_u32]; omega
        have hz3 : (m : Int) < 16 := by omega
        have hz4 : (0 : Int) ≤ (m : Int) := by omega
        have hmz : ((m : Int) == 0) = false := by simp; omega
        clear HI hE hm hcd hx r1 r2 HK
        generalize ps ls I = PL at *
        generalize cd ls I = C at *
        go_upto_region 5 with fail
        go_region_held3 (fun w' => w'.cell? ⟨eb, m * 3 + 2, none⟩ = some (.int .i64 PL) ∧ w'.cell? ⟨eb, m * 3 + 1, none⟩ = some (.int .i64 C))
          (first | assumption | (refine ⟨?_, ?_⟩ <;> assumption))
          (first | (go_at_call 91; (with_reducible refine HTU.out.mono ?_); rintro e w5 ⟨rfl, t0, t1, rfl⟩) | (go_at_call 99; (with_reducible refine HTL.out.mono ?_); rintro e w6 ⟨⟨r6, rfl⟩, t2, t3, H6⟩))
        obtain ⟨ws2, ss2, hE2⟩ := H6.out
        obtain ⟨b0, b1, b2, hE3⟩ := HNX.out _ _ _ hE2
        have HN : Hid (∃ ws ss, EwI w cb gw gs pb eb L M (fr ls) ls (I + 1) (I + 1) ws ss ((w6.setCell ⟨eb, m * 3 + 2, none⟩ (.int .i64 ((PL : Int) + 1))).setCell ⟨eb, m * 3 + 1, none⟩ (.int .i64 ((C : Int) + 1)))) := ⟨_, _, hE3⟩
        clear HTL HTU HNX H6 hE2 hE3 c2 c1 c2d c1d t0 t1
        go_upto_region 7 with fail
        generalize w6.setCell ⟨eb, m * 3 + 2, none⟩ (.int .i64 ((PL : Int) + 1)) = W7 at *
        go_wp2_with fail
        go_roundg (L - (I + 1))
        case measure => omega
        case rel => exact ⟨I + 1, by omega, by omega, by first | rfl | (congr 1), HN⟩
    · obtain rfl : I = L := by omega
      have HF2 : Hid (∀ r, P (.returned r) wr) := fun r => HF.out r _ _ _ hE
      have hz : ¬ (I : Int) < (I : Int) := by omega
      clear HI hE HF HB
      go_wp2_with fail
      go_end0
      exact HF2.out _
end Go.Proofs.YtincbbnppcpfpaaDoor

namespace Go.Proofs.YtincbbnppcpfpaaDoor
open Go.RowKit
set_option linter.unusedVariables false
theorem build_code (f : Nat → Nat → Nat) (g1 g2 L M : Nat) (w : World) : (Instr.build 127 #[(0, .slice (some ⟨g1, 0, none⟩) L L), (1, .slice (some ⟨g2, 0, none⟩) M M), (2, .agg (rowC f))]).run Tryd.prog w = .ok (.agg (codeC (.slice (some ⟨g1, 0, none⟩) L L) (.slice (some ⟨g2, 0, none⟩) M M) f)) w := by
  kernel_rfl
theorem size94 : (Tryd.prog.info? 127).map (·.size) = some 50 := by kernel_rfl
theorem toI_of (zs : List Int) (h : ∀ z ∈ zs, 0 ≤ z ∧ z ≤ 15) : ∃ ls : List Nat, zs = toI ls ∧ (∀ i, ls.getD i 0 ≤ 15) ∧ ∀ x ∈ ls, x ≤ 15 := by
  refine ⟨zs.map Int.toNat, ?_, ?_, ?_⟩
  · rw [toI, List.map_map]
    conv => lhs; rw [← List.map_id zs]
    apply List.map_congr_left
    intro z hz
    have := h z hz
    simp only [id, Function.comp]
    omega
  · intro i
    rw [List.getD_eq_getElem?_getD, List.getElem?_map]
    cases he : zs[i]? with
    | none => simp
    | some z =>
      have := h z (List.mem_of_getElem? he)
      simp
      omega
  · intro x hx
    obtain ⟨z, hz, rfl⟩ := List.mem_map.1 hx
    have := h z hz
    omega
theorem toI_inj (a b : List Nat) (h : toI a = toI b) : a = b := by
  apply List.ext_getElem?
  intro i
  have : (toI a)[i]? = (toI b)[i]? := by rw [h]
  simp only [toI, List.getElem?_map] at this
  cases ha : a[i]? with
  | none =>
    cases hb : b[i]? with
    | none => rfl
    | some y => rw [ha, hb] at this; simp at this
  | some x =>
    cases hb : b[i]? with
    | none => rw [ha, hb] at this; simp at this
    | some y => rw [ha, hb] at this; simp at this; rw [show x = y by omega]
theorem load_row_g {ops : Array Oper} {rest : List Oper} {o : Oper} {a : Act} {w : World} {Q : Exit → Act → World → Prop} (hw : Region.wanted o (yielded ops a.tmps) = true) (x : Operand) (ho : o.op = .load 125 x)
    (g : Nat) (hx : a.eval x = .pointer (some ⟨g, 0, none⟩)) (cs : Array Value) (hg : w.heap[g]? = some (.cells cs 125)) (hi : cs.size = 48)
    (h : wpList Tryd.prog ops Q rest (a.put o.dst (.agg cs)) w) : wpList Tryd.prog ops Q (o :: rest) a w := by
  unfold wpList
  rw [if_pos hw]
  exact .inl (wp_load_row 125 x ho g hx 125 cs (0, 0) _ hg Tryd.underlying125 rfl (by rw [size90, hi]) h)
/-- The lengths are a code. -/
def IsCode (zs : List Int) : Prop := ∃ ls, zs = toI ls ∧ Cod ls
set_option maxHeartbeats 8000000 in
set_option maxRecDepth 100000 in
theorem newCode_no (w : World) (v : Value) (zs : List Int) (h : SlR RI (fun k => w.heap.size ≤ k) v zs w) (hl : zs.length ≤ 17592186043904) (hn : ¬ IsCode zs) : Calls Tryd.prog 88 #[v] w fun e w' => e = .returned (.tuple #[.pointer none, .int .i64 51]) ∧ Nw w w' := by
  obtain ⟨P, hP⟩ : ∃ P : Ending → World → Prop, P = fun e w' => e = .returned (.tuple #[.pointer none, .int .i64 51]) ∧ Nw w w' := ⟨_, rfl⟩
  rw [← hP]
  have HF : Hid (∀ W, Nw w W → P (.returned (.tuple #[.pointer none, .int .i64 51])) W) := fun W hW => by rw [hP]; exact ⟨rfl, hW⟩
  have hcb := canBe_any w v zs (h.mono (fun _ h => h.elim)) hl
  by_cases hk : okL zs
  · obtain ⟨ls, rfl, h15, hm15⟩ := toI_of zs hk.1
    have hlen : ls.length ≤ 320 := by have := hk.2; rw [toI_length] at this; exact this
    have hroom : room ls = 0 ∨ 32768 < room ls := by
      rcases Nat.eq_zero_or_pos (room ls) with e | e
      · exact .inl e
      · rcases Nat.lt_or_ge 32768 (room ls) with e2 | e2
        · exact .inr e2
        · exact absurd ⟨ls, rfl, h15, hlen, e, e2⟩ hn
    have hnb := nm_bound ls hlen 15
    have hct : ct ls 15 ≤ 320 := by rw [ct_pos _ _ (by decide)]; exact Nat.le_trans (List.count_le_length) hlen
    have hrb : room ls ≤ 100000000 := by
      unfold room
      have : (2 : Nat) ^ 15 = 32768 := by decide
      omega
    have HC1 : Hid (Calls Tryd.prog 94 #[v] w fun e w' => e = .returned (.bool true) ∧ w' = w) := hcb.mono (fun e w' ⟨⟨b, he, hb⟩, hw⟩ => ⟨by rw [he, hb.2 hk], hw⟩)
    have HC2 : Hid (Calls Tryd.prog 95 #[v] w fun e w' => e = .returned (.agg (rowC (fr ls))) ∧ Hid (Nw w w')) := rowsOf_any w v ls h hlen h15
    have HC3 : Hid (∀ V, Calls Tryd.prog 96 #[.agg (rowC (fr ls))] V fun e w' => e = .returned (.int .i64 (room ls)) ∧ Hid (Nw V w')) := fun V => room_any V (fr ls) (by show room ls ≤ _; omega)
    have hsz := rowC_size (fr ls)
    have hone := rowC_one (fr ls)
    obtain ⟨a, c, rfl, hca, hc2, hcc⟩ := h.form
    clear hP hcb hn h hnb hct
    generalize rowC (fr ls) = A at *
    generalize room ls = R at *
    go_enter Tryd.func88, Tryd.ntmps88
    go_upto_region 4 with (first | (go_at_call 94; (with_reducible refine HC1.out.mono ?_); rintro e w1 ⟨rfl, rfl⟩) | (go_at_call 95; (with_reducible refine HC2.out.mono ?_); rintro e w2 ⟨rfl, H2⟩) | (refine wpList_store_row rfl 125 _ _ rfl w2.heap.size A (by first | rfl | simp [Act.eval]) (by first | rfl | simp [Act.eval]) 125 _ (new_heap w2 _) (by rw [size90, hsz]) (by rw [hsz]; rfl) hone ?_))
    rw [← rowC_zero]
    have hr : ((w2.alloc (.cells (rowC fun _ _ => 0) 125)).setRow w2.heap.size A).heap[w2.heap.size]? = some (.cells A 125) := setRow_heap _ _ _ _ 125 _ (new_heap w2 _)
    have HN3 : Hid (Nw _ ((w2.alloc (.cells (rowC fun _ _ => 0) 125)).setRow w2.heap.size A)) := (H2.out.trans ((Fr.refl _ _).alloc _)).setRow _ _ (.inr H2.out.size)
    generalize (w2.alloc (.cells (rowC fun _ _ => 0) 125)).setRow w2.heap.size A = W3 at *
    obtain ⟨rr, hrr⟩ : ∃ r, r = w2.heap.size := ⟨_, rfl⟩
    rw [← hrr] at hr
    rw [← hrr]
    clear hrr HC1 HC2 H2
    rcases hroom with hR0 | hR1
    · subst hR0
      go_wp2_with (first | (refine wpList_load_row rfl 125 _ rfl rr (by first | rfl | simp [Act.eval]) 125 A (0, 0) _ hr Tryd.underlying125 rfl (by rw [size90, hsz]) ?_) | (go_at_call 96; (with_reducible refine (HC3.out _).mono ?_); rintro e w4 ⟨rfl, H4⟩))
      exact HF.out _ (HN3.out.trans H4.out)
    · have hz1 : ((R : Int) == 0) = false := by simp; omega
      have hz2 : (32768 : Int) < (R : Int) := by omega
      go_wp2_with (first | (refine wpList_load_row rfl 125 _ rfl rr (by first | rfl | simp [Act.eval]) 125 A (0, 0) _ hr Tryd.underlying125 rfl (by rw [size90, hsz]) ?_) | (go_at_call 96; (with_reducible refine (HC3.out W3).mono ?_); rintro e w4 ⟨rfl, H4⟩; have hr4 := H4.out.heap hr) | (refine load_row_g (by first | rfl | simp) _ rfl rr (by first | rfl | simp [Act.eval]) A hr4 hsz ?_) | (go_at_call 96; (with_reducible refine (HC3.out _).mono ?_); rintro e w5 ⟨rfl, H5⟩))
      exact HF.out _ ((HN3.out.trans H4.out).trans H5.out)
  · have HC1 : Hid (Calls Tryd.prog 94 #[v] w fun e w' => e = .returned (.bool false) ∧ w' = w) := hcb.mono (fun e w' ⟨⟨b, he, hb⟩, hw⟩ => ⟨by rw [he]; cases b with | false => rfl | true => exact absurd (hb.1 rfl) hk, hw⟩)
    obtain ⟨a, c, rfl, hca, hc2, hcc⟩ := h.form
    have HF2 : Hid (P (.returned (.tuple #[.pointer none, .int .i64 51])) w) := HF.out _ (Fr.refl _ _)
    clear hP hcb hn h
    generalize zs.length = Z at *
    go_enter Tryd.func88, Tryd.ntmps88
    go_wp2_with (first | (go_at_call 94; (with_reducible refine HC1.out.mono ?_); rintro e w1 ⟨rfl, rfl⟩))
    exact HF2.out
end Go.Proofs.YtincbbnppcpfpaaDoor
