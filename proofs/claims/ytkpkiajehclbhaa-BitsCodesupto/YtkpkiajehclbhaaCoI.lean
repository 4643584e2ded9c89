import Derived.Test.YtkpkiajehclbhaaCoH
namespace Go.Proofs.Ytkpkiajehclbhaa
open Go.RowKit
set_option linter.unusedVariables false
/-- A code that is made. -/
structure CodeI (cb gw gs : Nat) (ls : List Nat) (ws : List (Nat × Nat)) (ss : List Int) (w : World) : Prop where
  c : CdM cb gw gs ls.length (nwd ls) (fr ls) ws ss w
  W : ∀ i, i < ls.length → ws[i]? = some (wdP ls i)
  S : ∀ i, i < ls.length → ls.getD i 0 ≠ 0 → ss[ps ls i]? = some (i : Int)
theorem CodeI.kept {cb gw gs : Nat} {ls : List Nat} {ws : List (Nat × Nat)} {ss : List Int} {w w' : World} {X : Nat → Prop} (h : CodeI cb gw gs ls ws ss w) (k : Fr X w w') (h1 : ¬ X cb) (h2 : ¬ X gw) (h3 : ¬ X gs) : CodeI cb gw gs ls ws ss w' := ⟨h.c.kept k h1 h2 h3, h.W, h.S⟩
theorem CodeI.nw {cb gw gs : Nat} {ls : List Nat} {ws : List (Nat × Nat)} {ss : List Int} {w w' : World} (h : CodeI cb gw gs ls ws ss w) (k : Nw w w') : CodeI cb gw gs ls ws ss w' := ⟨h.c.nw k, h.W, h.S⟩
set_option maxHeartbeats 16000000 in
set_option maxRecDepth 100000 in
theorem eachWord_any (w : World) (v : Value) (ls : List Nat) (hk : Cod ls) (cb gw gs pb : Nat) (ws : List (Nat × Nat)) (ss : List Int) (h : SlR RI (fun k => k = gw ∨ k = gs ∨ w.heap.size ≤ k) v (toI ls) w)
    (hc : CdM cb gw gs ls.length (nwd ls) (fr ls) ws ss w) (hW : ∀ i, i < ls.length → ws[i]? = some (0, 0)) (hp : w.heap[pb]? = some (.cells #[.pointer (some ⟨cb, 0, none⟩)] 55)) (n1 : pb ≠ gw) (n2 : pb ≠ gs) :
    Calls Try.prog 50 #[v, .agg (rowC (fr ls)), .func (.func 51) #[] #[.pointer (some ⟨pb, 0, none⟩)]] w fun e w' => (∃ r, e = .returned r) ∧ (∃ ws' ss', CodeI cb gw gs ls ws' ss' w') ∧ w'.heap[pb]? = some (.cells #[.pointer (some ⟨cb, 0, none⟩)] 55) ∧ Fr (fun k => k = gw ∨ k = gs) w w' := by
  obtain ⟨P, hP⟩ : ∃ P : Ending → World → Prop, P = fun e w' => (∃ r, e = .returned r) ∧ (∃ ws' ss', CodeI cb gw gs ls ws' ss' w') ∧ w'.heap[pb]? = some (.cells #[.pointer (some ⟨cb, 0, none⟩)] 55) ∧ Fr (fun k => k = gw ∨ k = gs) w w' := ⟨_, rfl⟩
  rw [← hP]
  have HS : Hid (SlR RI (fun k => k = gw ∨ k = gs ∨ w.heap.size ≤ k) v (toI ls) w) := h
  obtain ⟨a, c, rfl, hca, hc2, hcc⟩ := h.form
  rw [toI_length] at hca ⊢
  have hN : Nw w (w.alloc (.cells (rowC (fr ls)) 90)) := (Fr.refl _ _).alloc _
  obtain ⟨l1, l2, l3⟩ := hc.lt
  have hpl : pb < w.heap.size := (Array.getElem?_eq_some_iff.1 hp).1
  have HI0 : Hid (∃ ws ss, EwI w cb gw gs pb w.heap.size ls.length (nwd ls) (fr ls) ls 0 0 ws ss (w.alloc (.cells (rowC (fr ls)) 90))) := by
    refine ⟨ws, ss, hc.nw hN, fun i hi => by rw [if_neg (by omega)]; exact hW i hi, fun i hi => by omega, hN.heap hp, ?_, n1, n2, by omega, by omega, by omega, by omega, Nat.le_refl _, hN.any⟩
    rw [new_heap]
    congr 2
  have HK : Hid (Cod ls) := hk
  have HF : Hid (∀ r W ws ss, EwI w cb gw gs pb w.heap.size ls.length (nwd ls) (fr ls) ls ls.length ls.length ws ss W → P (.returned r) W) := fun r W ws' ss' hE => by
    rw [hP]
    exact ⟨⟨_, rfl⟩, ⟨ws', ss', hE.c, fun i hi => by rw [hE.W i hi, if_pos hi], fun i hi hn => hE.S i hi hi hn⟩, hE.p, hE.fr⟩
  have HB : Hid (∀ V, Fr (fun k => k = gw ∨ k = gs) w V → ∀ I, I < ls.length → ∃ g o, a = some ⟨g, o, none⟩ ∧ V.cell? ⟨g, o + I, none⟩ = some (.int .i64 (ls.getD I 0 : Nat))) := fun V hV I hI => by
    obtain ⟨g, o, e, hg, hcell⟩ := ri_at HS.out I _ (toI_at ls I hI)
    exact ⟨g, o, e, hV.cellv hcell (fun hx => hg (by rcases hx with e | e; exact .inl e; exact .inr (.inl e)))⟩
  have hlen := hk.len
  clear hP h hc hW hp hN HS l1 l2 l3 hpl hk
  generalize hL : ls.length = L at *
  have hL' : Hid (ls.length = L) := hL
  clear hL
  generalize hMM : nwd ls = M at *
  have hM' : Hid (nwd ls = M) := hMM
  clear hMM
  generalize hA : rowC (fr ls) = A at *
  clear hA
  go_enter Try.func50, Try.ntmps50
  go_upto_region 1 with fail
  generalize w.alloc (.cells A 90) = w1 at *
  obtain ⟨eb, heb⟩ : ∃ e, e = w.heap.size := ⟨_, rfl⟩
  rw [← heb] at HI0 HF
  rw [← heb]
  clear heb
  go_wp2_with fail
  go_loopg [10] L (fun kx i wr => ∃ (I : Nat), I ≤ L ∧ L - I ≤ kx ∧ i = .int .i64 I ∧ Hid (∃ ws ss, EwI w cb gw gs pb eb L M (fr ls) ls I I ws ss wr))
  case atStart => exact ⟨0, by omega, by omega, rfl, HI0⟩
  case round =>
    obtain ⟨I, hI, hkx, rfl, HI⟩ := hrel
    clear HI0
    obtain ⟨ws1, ss1, hE⟩ := HI.out
    by_cases hlt : I < L
    · have hIl : I < ls.length := by rw [hL'.out]; exact hlt
      obtain ⟨g, o, rfl, hcell⟩ := HB.out wr hE.fr I (by omega)
      have hz : (I : Int) < (L : Int) := by omega
      obtain ⟨m, hm⟩ : ∃ m, ls.getD I 0 = m := ⟨_, rfl⟩
      have h15 : m ≤ 15 := by rw [← hm]; exact HK.out.each I
      rw [hm] at hcell
      clear HB HF
      by_cases hm0 : m = 0
      · subst hm0
        have HN : Hid (∃ ws ss, EwI w cb gw gs pb eb L M (fr ls) ls (I + 1) (I + 1) ws ss wr) := ⟨_, _, hE.skip hIl hL'.out hm⟩
        clear HI hE hm
        go_wp2_with fail
        go_roundg (L - (I + 1))
        case measure => omega
        case rel => exact ⟨I + 1, by omega, by omega, by first | rfl | (congr 1), HN⟩
      · obtain ⟨x, hx⟩ : ∃ x, x = rev m (cd ls I) := ⟨_, rfl⟩
        have HTL := hE.tell HK.out hIl hL'.out hM'.out m hm hm0 x hx
        obtain ⟨r1, r2⟩ := fe_rk ls I m hm hm0
        have c2 := (hE.cell m 2 (by omega) (by omega)).1
        have c1 := (hE.cell m 1 (by omega) (by omega)).1
        rw [r1] at c2
        rw [r2] at c1
        have hcd := (HK.out.cd_lt I hIl (by rw [hm]; exact hm0)).2
        rw [hm] at hcd
        have hcd2 : cd ls I < 32768 := Nat.lt_of_lt_of_le hcd (Nat.pow_le_pow_right (n := 2) (by decide) h15)
        have HTU : Hid (Calls Try.prog 54 #[.int .u32 (cd ls I), .int .i64 m] wr.drew fun e w' => e = .returned (.int .u32 x) ∧ w'.cell? ⟨eb, m * 3 + 2, none⟩ = some (.int .i64 (ps ls I)) ∧ w'.cell? ⟨eb, m * 3 + 1, none⟩ = some (.int .i64 (cd ls I)) ∧ w' = wr.drew) := by
          refine (turned_any (cd ls I) m (by omega) (by omega) wr.drew).mono ?_
          rintro e w' ⟨rfl, rfl⟩
          exact ⟨by rw [hx], c2, c1, rfl⟩
        have HNX : Hid (∀ w1 ws ss, EwI w cb gw gs pb eb L M (fr ls) ls (I + 1) I ws ss w1 → w1.frozen? ⟨eb, m * 3 + 2, none⟩ = false ∧ (w1.setCell ⟨eb, m * 3 + 2, none⟩ (.int .i64 ((ps ls I : Int) + 1))).cell? ⟨eb, m * 3 + 1, none⟩ = some (.int .i64 (cd ls I)) ∧ (w1.setCell ⟨eb, m * 3 + 2, none⟩ (.int .i64 ((ps ls I : Int) + 1))).frozen? ⟨eb, m * 3 + 1, none⟩ = false ∧ EwI w cb gw gs pb eb L M (fr ls) ls (I + 1) (I + 1) ws ss ((w1.setCell ⟨eb, m * 3 + 2, none⟩ (.int .i64 ((ps ls I : Int) + 1))).setCell ⟨eb, m * 3 + 1, none⟩ (.int .i64 ((cd ls I : Int) + 1)))) := fun w1 ws ss h => h.next HK.out hIl m hm hm0
        have hpsb : ps ls I ≤ 1000000 := by
          have h1 := HK.out.ps_lt I hIl (by rw [hm]; exact hm0)
          have h2 := hE.c.ml
          rw [hM'.out] at h1
          omega
        have c2d : wr.drew.cell? ⟨eb, m * 3 + 2, none⟩ = some (.int .i64 (ps ls I)) := c2
        have c1d : wr.drew.cell? ⟨eb, m * 3 + 1, none⟩ = some (.int .i64 (cd ls I)) := c1
        have hcw : IntKind.u32.wrap ((cd ls I : Nat) : Int) = (cd ls I : Int) := by rw [IntKind.wrap_u32]; omega
        have hz3 : (m : Int) < 16 := by omega
        have hz4 : (0 : Int) ≤ (m : Int) := by omega
        have hmz : ((m : Int) == 0) = false := by simp; omega
        clear HI hE hm hcd hx r1 r2 HK
        generalize ps ls I = PL at *
        generalize cd ls I = C at *
        go_upto_region 5 with fail
        go_region_held3 (fun w' => w'.cell? ⟨eb, m * 3 + 2, none⟩ = some (.int .i64 PL) ∧ w'.cell? ⟨eb, m * 3 + 1, none⟩ = some (.int .i64 C))
          (first | assumption | (refine ⟨?_, ?_⟩ <;> assumption))
          (first | (go_at_call 54; (with_reducible refine HTU.out.mono ?_); rintro e w5 ⟨rfl, t0, t1, rfl⟩) | (go_at_call 51; (with_reducible refine HTL.out.mono ?_); rintro e w6 ⟨⟨r6, rfl⟩, t2, t3, H6⟩))
        obtain ⟨ws2, ss2, hE2⟩ := H6.out
        obtain ⟨b0, b1, b2, hE3⟩ := HNX.out _ _ _ hE2
        have HN : Hid (∃ ws ss, EwI w cb gw gs pb eb L M (fr ls) ls (I + 1) (I + 1) ws ss ((w6.setCell ⟨eb, m * 3 + 2, none⟩ (.int .i64 ((PL : Int) + 1))).setCell ⟨eb, m * 3 + 1, none⟩ (.int .i64 ((C : Int) + 1)))) := ⟨_, _, hE3⟩
        clear HTL HTU HNX H6 hE2 hE3 c2 c1 c2d c1d t0 t1
        go_upto_region 7 with fail
        generalize w6.setCell ⟨eb, m * 3 + 2, none⟩ (.int .i64 ((PL : Int) + 1)) = W7 at *
        go_wp2_with fail
        go_roundg (L - (I + 1))
        case measure => omega
        case rel => exact ⟨I + 1, by omega, by omega, by first | rfl | (congr 1), HN⟩
    · obtain rfl : I = L := by omega
      have HF2 : Hid (∀ r, P (.returned r) wr) := fun r => HF.out r _ _ _ hE
      have hz : ¬ (I : Int) < (I : Int) := by omega
      clear HI hE HF HB
      go_wp2_with fail
      go_end0
      exact HF2.out _
end Go.Proofs.Ytkpkiajehclbhaa
