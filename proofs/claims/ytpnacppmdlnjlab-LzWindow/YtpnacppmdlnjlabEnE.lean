import Derived.Test.YtpnacppmdlnjlabEnD
namespace Go.Proofs.Ytpnacppmdlnjlab
open Go.RowKit
set_option linter.unusedVariables false
/-- Behind a turn of near and far. -/
def turned (T : List By) (p : Nat) : Pm × Pm := if p % 65536 = 0 then (fun _ => none, (ups T p).1) else ups T p
theorem ups_succ (T : List By) (p : Nat) : ups T (p + 1) = (fun k => if k = kat T p then some p else (turned T p).1 k, (turned T p).2) := by
  unfold turned
  by_cases h : p % 65536 = 0
  · simp only [ups, h, if_true]
  · simp only [ups, h, if_false]
/-- The places, with near and far turned about where it is time. -/
structure PMd (pb gT cT nb fb p : Nat) (T : List By) (w : World) : Prop where
  blk : w.heap[pb]? = some (.cells #[.slice (some ⟨gT, 0, none⟩) T.length cT, .map (some nb), .map (some fb), .int .i64 p] 53)
  txt : Rd gT 0 T w
  near : MpO nb (turned T p).1 p w
  far : MpO fb (turned T p).2 p w
  d1 : nb ≠ fb
  d2 : pb ≠ nb
  d3 : pb ≠ fb
  d4 : gT ≠ pb
  d5 : gT ≠ nb
  d6 : gT ≠ fb
  tl : T.length ≤ cT
  tc : cT < 9223372036854775808
theorem PLs.same {pb gT cT nb fb p : Nat} {T : List By} {w : World} (h : PLs pb gT cT nb fb p T w) (hp : ¬ p % 65536 = 0) : PMd pb gT cT nb fb p T w := by
  refine ⟨h.blk, h.txt, ?_, ?_, h.d1, h.d2, h.d3, h.d4, h.d5, h.d6, h.tl, h.tc⟩
  · unfold turned; rw [if_neg hp]; exact h.near
  · unfold turned; rw [if_neg hp]; exact h.far
/-- Near and far turned about: the new near is cleared. -/
theorem PLs.swap {pb gT cT nb fb p : Nat} {T : List By} {w : World} (h : PLs pb gT cT nb fb p T w) (hp : p % 65536 = 0) :
    ∃ W2, (∀ ty, (Builtin.clear_ #[51] ty #[.map (some fb)]).run Try.prog ((w.setCell ⟨pb, 1, none⟩ (.map (some fb))).setCell ⟨pb, 2, none⟩ (.map (some nb))).drew = .ok (.tuple #[]) W2) ∧ PMd pb gT cT fb nb p T W2 ∧ Fr (fun k => k = pb ∨ k = nb ∨ k = fb) w W2 := by
  have hF1 : Fr (fun k => k = pb) w ((w.setCell ⟨pb, 1, none⟩ (.map (some fb))).setCell ⟨pb, 2, none⟩ (.map (some nb))).drew := (((Fr.refl (fun k => k = pb) w).setCell ⟨pb, 1, none⟩ _ (.inl rfl)).setCell ⟨pb, 2, none⟩ _ (.inl rfl)).drew
  have hb := h.blk
  have hb1 : ((w.setCell ⟨pb, 1, none⟩ (.map (some fb))).setCell ⟨pb, 2, none⟩ (.map (some nb))).drew.heap[pb]? = some (.cells #[.slice (some ⟨gT, 0, none⟩) T.length cT, .map (some fb), .map (some nb), .int .i64 p] 53) := by
    show ((w.setCell ⟨pb, 1, none⟩ (.map (some fb))).setCell ⟨pb, 2, none⟩ (.map (some nb))).heap[pb]? = _
    simp [World.setCell, Array.getElem?_modify, hb]
  obtain ⟨W2, hcl, hM, hF2⟩ := (h.far.kept hF1 h.d3.symm).clear
  refine ⟨W2, hcl, ?_, ?_⟩
  · refine ⟨?_, ?_, ?_, ?_, h.d1.symm, h.d3, h.d2, h.d4, h.d6, h.d5, h.tl, h.tc⟩
    · exact (hF2.block pb (Array.getElem?_eq_some_iff.1 hb1).1 h.d3).trans hb1
    · exact fun j hj => hF2.cellv (hF1.cellv (h.txt j hj) h.d4) h.d6
    · unfold turned; rw [if_pos hp]; exact hM.mono (Nat.zero_le _)
    · unfold turned; rw [if_pos hp]; exact (h.near.kept hF1 h.d2.symm).kept hF2 h.d1
  · exact (hF1.mono (fun k hk => .inl (.inl hk))).trans (hF2.mono (fun k hk => .inl (.inr (.inr hk))))
theorem PMd.pls {pb gT cT nb fb p : Nat} {T : List By} {w : World} (h : PMd pb gT cT nb fb p T w) : w.cell? ⟨pb, 1, none⟩ = some (.map (some nb)) ∧ w.cell? ⟨pb, 3, none⟩ = some (.int .i64 p) := by
  have := h.blk
  refine ⟨?_, ?_⟩ <;> simp [World.cell?, this]
theorem PMd.nw {pb gT cT nb fb nx : Nat} {T : List By} {w w' : World} (h : PMd pb gT cT nb fb nx T w) (f : Nw w w') : PMd pb gT cT nb fb nx T w' :=
  ⟨f.heap h.blk, fun j hj => f.cell (h.txt j hj), h.near.nw f, h.far.nw f, h.d1, h.d2, h.d3, h.d4, h.d5, h.d6, h.tl, h.tc⟩
/-- A place is noted. -/
theorem PMd.noted {pb gT cT nb fb p : Nat} {T : List By} {w : World} (h : PMd pb gT cT nb fb p T w) (hp : p + 4 ≤ T.length) (hT : T.length ≤ 100000000) :
    ∃ W, (Instr.mapUpdate 51 (.map (some nb)) (kv (kat T p)) (.int .i64 p)).run Try.prog w = .ok () W ∧ W.cell? ⟨pb, 3, none⟩ = some (.int .i64 p) ∧ W.frozen? ⟨pb, 3, none⟩ = false ∧ W.cell? ⟨pb, 1, none⟩ = some (.map (some nb)) ∧ PLs pb gT cT nb fb (p + 1) T (W.setCell ⟨pb, 3, none⟩ (.int .i64 (p + 1 : Nat))) ∧ Fr (fun k => k = pb ∨ k = nb ∨ k = fb) w (W.setCell ⟨pb, 3, none⟩ (.int .i64 (p + 1 : Nat))) := by
  obtain ⟨W, hrun, hM, hF⟩ := h.near.store (kat T p) (kat_len hp) p (by omega) (by omega)
  have hb := (hF.block pb (Array.getElem?_eq_some_iff.1 h.blk).1 h.d2).trans h.blk
  have hFs : Fr (fun k => k = pb) W (W.setCell ⟨pb, 3, none⟩ (.int .i64 (p + 1 : Nat))) := (Fr.refl _ _).setCell _ _ (.inl rfl)
  have hu := ups_succ T p
  refine ⟨W, hrun, by simp [World.cell?, hb], by simp [World.frozen?, hb], by simp [World.cell?, hb], ?_, ?_⟩
  · refine ⟨?_, ?_, ?_, ?_, h.d1, h.d2, h.d3, h.d4, h.d5, h.d6, h.tl, h.tc⟩
    · simp [World.setCell, Array.getElem?_modify, hb]
    · exact fun j hj => hFs.cellv (hF.cellv (h.txt j hj) h.d5) h.d4
    · rw [hu]; exact hM.kept hFs h.d2.symm
    · rw [hu]; exact ((h.far.kept hF h.d1.symm).kept hFs h.d3.symm).mono (Nat.le_succ _)
  · exact (hF.mono (fun k hk => .inl (.inr (.inl hk)))).trans (hFs.mono (fun k hk => .inl (.inl hk)))
theorem keyM_any (V : World) (pb gT cT nb fb nx : Nat) (T : List By) (h : PMd pb gT cT nb fb nx T V) (p : Nat) (hp : p + 4 ≤ T.length) (hT : T.length ≤ 100000000) :
    Calls Try.prog 24 #[.pointer (some ⟨pb, 0, none⟩), .int .i64 p] V fun e w' => e = .returned (kv (kat T p)) ∧ Nw V w' := by
  have hb := h.blk
  exact key_cells V pb gT cT T (by simp [World.cell?, hb]) h.txt h.tl h.tc (Array.getElem?_eq_some_iff.1 hb).1 p hp hT
set_option maxHeartbeats 16000000 in
set_option maxRecDepth 100000 in
theorem note_any (V : World) (pb gT cT nb fb nx : Nat) (T : List By) (h : PLs pb gT cT nb fb nx T V) (at' : Nat) (hn : nx ≤ at') (ha : at' + 3 ≤ T.length) (hT : T.length ≤ 100000000) :
    Calls Try.prog 23 #[.pointer (some ⟨pb, 0, none⟩), .int .i64 ((at' : Int) - 1)] V fun e w' => (∃ r, e = .returned r) ∧ ∃ nb' fb', PLs pb gT cT nb' fb' at' T w' ∧ Fr (fun k => k = pb ∨ k = nb ∨ k = fb) V w' ∧ ((nb' = nb ∧ fb' = fb) ∨ (nb' = fb ∧ fb' = nb)) := by
  obtain ⟨P, hP⟩ : ∃ P : Ending → World → Prop, P = fun e w' => (∃ r, e = .returned r) ∧ ∃ nb' fb', PLs pb gT cT nb' fb' at' T w' ∧ Fr (fun k => k = pb ∨ k = nb ∨ k = fb) V w' ∧ ((nb' = nb ∧ fb' = fb) ∨ (nb' = fb ∧ fb' = nb)) := ⟨_, rfl⟩
  rw [← hP]
  have HP : Hid (P = fun e w' => (∃ r, e = .returned r) ∧ ∃ nb' fb', PLs pb gT cT nb' fb' at' T w' ∧ Fr (fun k => k = pb ∨ k = nb ∨ k = fb) V w' ∧ ((nb' = nb ∧ fb' = fb) ∨ (nb' = fb ∧ fb' = nb))) := hP
  clear hP
  have HI0 : Hid (∃ nb' fb', PLs pb gT cT nb' fb' nx T V ∧ Fr (fun k => k = pb ∨ k = nb ∨ k = fb) V V ∧ ((nb' = nb ∧ fb' = fb) ∨ (nb' = fb ∧ fb' = nb))) := ⟨nb, fb, h, Fr.refl _ _, .inl ⟨rfl, rfl⟩⟩
  have HT : Hid (T.length ≤ 100000000 ∧ at' + 3 ≤ T.length) := ⟨hT, ha⟩
  have hal : at' ≤ 100000000 := by omega
  clear h hT ha
  go_enter Try.func23, Try.ntmps23
  go_wp2
  go_loopg [] (at' + 1) (fun kx wr => ∃ (p : Nat), p ≤ at' ∧ at' + 1 - p ≤ kx ∧ Hid (∃ nb' fb', PLs pb gT cT nb' fb' p T wr ∧ Fr (fun k => k = pb ∨ k = nb ∨ k = fb) V wr ∧ ((nb' = nb ∧ fb' = fb) ∨ (nb' = fb ∧ fb' = nb))))
  case atStart => exact ⟨nx, by omega, by omega, HI0⟩
  case round =>
    obtain ⟨p, hp, hkx, HI⟩ := hrel
    clear HI0
    obtain ⟨nb', fb', hL, hF, hnf⟩ := HI.out
    obtain ⟨c0, c1, c2, c3⟩ := hL.cell
    have f1 := hL.froz 1
    have f2 := hL.froz 2
    have f3 := hL.froz 3
    by_cases hlt : p < at'
    · have hp4 : p + 4 ≤ T.length := by have := HT.out.2; omega
      have hz1 : (p : Int) ≤ (at' : Int) - 1 := by omega
      have hrem : Int.tmod (p : Int) 65536 = ((p % 65536 : Nat) : Int) := rfl
      -- what comes behind near and far are settled
      have tail : ∀ (nb2 fb2 : Nat) (V2 : World), PMd pb gT cT nb2 fb2 p T V2 → Fr (fun k => k = pb ∨ k = nb ∨ k = fb) V V2 → ((nb2 = nb ∧ fb2 = fb) ∨ (nb2 = fb ∧ fb2 = nb)) → V2.cell? ⟨pb, 1, none⟩ = some (.map (some nb2)) ∧ V2.cell? ⟨pb, 3, none⟩ = some (.int .i64 p) ∧ Hid (∀ V3, Nw V2 V3 → Calls Try.prog 24 #[.pointer (some ⟨pb, 0, none⟩), .int .i64 p] V3 fun e w1 => e = .returned (kv (kat T p)) ∧ (w1.cell? ⟨pb, 1, none⟩ = some (.map (some nb2)) ∧ w1.cell? ⟨pb, 3, none⟩ = some (.int .i64 p)) ∧ ∃ W, (Instr.mapUpdate 51 (.map (some nb2)) (kv (kat T p)) (.int .i64 p)).run Try.prog w1 = .ok () W ∧ W.cell? ⟨pb, 3, none⟩ = some (.int .i64 p) ∧ W.frozen? ⟨pb, 3, none⟩ = false ∧ W.cell? ⟨pb, 1, none⟩ = some (.map (some nb2)) ∧ Hid (∃ nb' fb', PLs pb gT cT nb' fb' (p + 1) T (W.setCell ⟨pb, 3, none⟩ (.int .i64 (p + 1 : Nat))) ∧ Fr (fun k => k = pb ∨ k = nb ∨ k = fb) V (W.setCell ⟨pb, 3, none⟩ (.int .i64 (p + 1 : Nat))) ∧ ((nb' = nb ∧ fb' = fb) ∨ (nb' = fb ∧ fb' = nb)))) := by
        intro nb2 fb2 V2 hM hF2 hnf2
        refine ⟨hM.pls.1, hM.pls.2, fun V3 hV3 => ?_⟩
        refine (keyM_any V3 pb gT cT nb2 fb2 p T (hM.nw hV3) p hp4 HT.out.1).mono ?_
        rintro e w1 ⟨rfl, hN1⟩
        have hM1 := (hM.nw hV3).nw hN1
        obtain ⟨W, k1, k2, k3, k4, k5, k6⟩ := hM1.noted hp4 HT.out.1
        have k6' : Fr (fun k => k = pb ∨ k = nb ∨ k = fb) w1 (W.setCell ⟨pb, 3, none⟩ (.int .i64 (p + 1 : Nat))) := k6.mono (fun k hk => .inl (by rcases hnf2 with ⟨rfl, rfl⟩ | ⟨rfl, rfl⟩ <;> rcases hk with hk | hk | hk <;> simp [hk]))
        exact ⟨rfl, hM1.pls, W, k1, k2, k3, k4, nb2, fb2, k5, (hF2.trans (hV3.trans hN1).any).trans k6', hnf2⟩
      by_cases hm : p % 65536 = 0
      · obtain ⟨W2, hcl, hM2, hF2⟩ := hL.swap hm
        have hF2' : Fr (fun k => k = pb ∨ k = nb ∨ k = fb) wr W2 := hF2.mono (fun k hk => .inl (by rcases hnf with ⟨rfl, rfl⟩ | ⟨rfl, rfl⟩ <;> rcases hk with hk | hk | hk <;> simp [hk]))
        obtain ⟨d1, d3, HK⟩ := tail fb' nb' W2 hM2 (hF.trans hF2') (by rcases hnf with h | h; exact .inr ⟨h.2, h.1⟩; exact .inl ⟨h.2, h.1⟩)
        have HCL : Hid (∀ ty, (Builtin.clear_ #[51] ty #[.map (some fb')]).run Try.prog ((wr.setCell ⟨pb, 1, none⟩ (.map (some fb'))).setCell ⟨pb, 2, none⟩ (.map (some nb'))).drew = .ok (.tuple #[]) W2) := hcl
        have hze : ((p % 65536 : Nat) : Int) = 0 := by omega
        have hpl : p ≤ 100000000 := by omega
        clear tail HI HP hF hnf hL hM2 hF2 hF2' hcl
        generalize hkk : kv (kat T p) = kk at *
        go_wp2_with fail
        go_region
        have hcl0 := HCL.out 0
        go_wp2_with fail
        go_region_held3 (fun w' => w'.cell? ⟨pb, 1, none⟩ = some (.map (some fb')) ∧ w'.cell? ⟨pb, 3, none⟩ = some (.int .i64 p)) (first | exact ⟨d1, d3⟩ | assumption | exact ⟨k4, k2⟩)
          (first | (go_at_call 24; with_reducible refine (HK.out _ (Fr.refl _ _).drew).mono ?_; rintro e w1 ⟨rfl, hz0, W, k1, k2, k3, k4, HE⟩))
        all_goals go_wp2_with fail
        all_goals go_roundg (at' + 1 - (p + 1))
        all_goals (first | omega | exact ⟨p + 1, by omega, by omega, HE⟩)
      · obtain ⟨_, _, HK⟩ := tail nb' fb' wr (hL.same hm) hF hnf
        have hze : ¬ ((p % 65536 : Nat) : Int) = 0 := by omega
        have hzb : (((p % 65536 : Nat) : Int) == 0) = false := by simp; omega
        have hpl : p ≤ 100000000 := by omega
        clear tail HI HP hL hF hnf
        generalize hkk : kv (kat T p) = kk at *
        generalize p % 65536 = pm at *
        go_wp2_with fail
        go_region_held3 (fun w' => w'.cell? ⟨pb, 1, none⟩ = some (.map (some nb')) ∧ w'.cell? ⟨pb, 3, none⟩ = some (.int .i64 p)) (first | exact ⟨c1, c3⟩ | assumption | exact ⟨k4, k2⟩)
          (first | (go_at_call 24; with_reducible refine (HK.out _ (Fr.refl _ _).drew).mono ?_; rintro e w1 ⟨rfl, hz0, W, k1, k2, k3, k4, HE⟩))
        all_goals go_wp2_with fail
        all_goals go_roundg (at' + 1 - (p + 1))
        all_goals (first | omega | exact ⟨p + 1, by omega, by omega, HE⟩)
    · obtain rfl : p = at' := by omega
      have hz1 : ¬ (p : Int) ≤ (p : Int) - 1 := by omega
      have HF : Hid (∀ r, P (.returned r) wr) := fun r => by
        rw [HP.out]
        exact ⟨⟨r, rfl⟩, nb', fb', hL, hF, hnf⟩
      clear HI HP hL hF hnf
      go_wp2_with fail
      go_end0
      exact HF.out _
end Go.Proofs.Ytpnacppmdlnjlab
