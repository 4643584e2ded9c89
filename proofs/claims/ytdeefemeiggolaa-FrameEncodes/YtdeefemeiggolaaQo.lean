import Derived.Test.YtdeefemeiggolaaQn
import Derived.Test.YtdeefemeiggolaaQh
import Derived.Test.YtdeefemeiggolaaQm
import Derived.Carry
import Derived.Test.YtdeefemeiggolaaQl
import Derived.Lib.MinMax
namespace Go.Proofs.Ytdeefemeiggolaa
open Go.RowKit
set_option linter.unusedVariables false
/-- Behind a turn of near and far. -/
def turned (T : List By) (p : Nat) : Pm × Pm := if p % 65536 = 0 then (fun _ => none, (ups T p).1) else ups T p
theorem ups_succ (T : List By) (p : Nat) : ups T (p + 1) = (fun k => if k = kat T p then some p else (turned T p).1 k, (turned T p).2) := by
  unfold turned
  by_cases h : p % 65536 = 0
  · simp only [ups, h, if_true]
  · simp only [ups, h, if_false]
/-- The places, with near and far turned about where it is time. -/
structure PMd (pb gT cT nb fb p : Nat) (T : List By) (w : World) : Prop where
  blk : w.heap[pb]? = some (.cells #[.slice (some ⟨gT, 0, none⟩) T.length cT, .map (some nb), .map (some fb), .int .i64 p] 99)
  txt : Rd gT 0 T w
  near : MpO nb (turned T p).1 p w
  far : MpO fb (turned T p).2 p w
  d1 : nb ≠ fb
  d2 : pb ≠ nb
  d3 : pb ≠ fb
  d4 : gT ≠ pb
  d5 : gT ≠ nb
  d6 : gT ≠ fb
  tl : T.length ≤ cT
  tc : cT < 9223372036854775808
theorem PLs.same {pb gT cT nb fb p : Nat} {T : List By} {w : World} (h : PLs pb gT cT nb fb p T w) (hp : ¬ p % 65536 = 0) : PMd pb gT cT nb fb p T w := by
  refine ⟨h.blk, h.txt, ?_, ?_, h.d1, h.d2, h.d3, h.d4, h.d5, h.d6, h.tl, h.tc⟩
  · unfold turned; rw [if_neg hp]; exact h.near
  · unfold turned; rw [if_neg hp]; exact h.far
/-- Near and far turned about: the new near is cleared. -/
theorem PLs.swap {pb gT cT nb fb p : Nat} {T : List By} {w : World} (h : PLs pb gT cT nb fb p T w) (hp : p % 65536 = 0) :
    ∃ W2, (∀ ty, (Builtin.clear_ #[97] ty #[.map (some fb)]).run Try.prog ((w.setCell ⟨pb, 1, none⟩ (.map (some fb))).setCell ⟨pb, 2, none⟩ (.map (some nb))).drew = .ok (.tuple #[]) W2) ∧ PMd pb gT cT fb nb p T W2 ∧ Fr (fun k => k = pb ∨ k = nb ∨ k = fb) w W2 := by
  have hF1 : Fr (fun k => k = pb) w ((w.setCell ⟨pb, 1, none⟩ (.map (some fb))).setCell ⟨pb, 2, none⟩ (.map (some nb))).drew := (((Fr.refl (fun k => k = pb) w).setCell ⟨pb, 1, none⟩ _ (.inl rfl)).setCell ⟨pb, 2, none⟩ _ (.inl rfl)).drew
  have hb := h.blk
  have hb1 : ((w.setCell ⟨pb, 1, none⟩ (.map (some fb))).setCell ⟨pb, 2, none⟩ (.map (some nb))).drew.heap[pb]? = some (.cells #[.slice (some ⟨gT, 0, none⟩) T.length cT, .map (some fb), .map (some nb), .int .i64 p] 99) := by
    show ((w.setCell ⟨pb, 1, none⟩ (.map (some fb))).setCell ⟨pb, 2, none⟩ (.map (some nb))).heap[pb]? = _
    simp [World.setCell, Array.getElem?_modify, hb]
  obtain ⟨W2, hcl, hM, hF2⟩ := (h.far.kept hF1 h.d3.symm).clear
  refine ⟨W2, hcl, ?_, ?_⟩
  · refine ⟨?_, ?_, ?_, ?_, h.d1.symm, h.d3, h.d2, h.d4, h.d6, h.d5, h.tl, h.tc⟩
    · exact (hF2.block pb (Array.getElem?_eq_some_iff.1 hb1).1 h.d3).trans hb1
    · exact fun j hj => hF2.cellv (hF1.cellv (h.txt j hj) h.d4) h.d6
    · unfold turned; rw [if_pos hp]; exact hM.mono (Nat.zero_le _)
    · unfold turned; rw [if_pos hp]; exact (h.near.kept hF1 h.d2.symm).kept hF2 h.d1
  · exact (hF1.mono (fun k hk => .inl (.inl hk))).trans (hF2.mono (fun k hk => .inl (.inr (.inr hk))))
theorem PMd.pls {pb gT cT nb fb p : Nat} {T : List By} {w : World} (h : PMd pb gT cT nb fb p T w) : w.cell? ⟨pb, 1, none⟩ = some (.map (some nb)) ∧ w.cell? ⟨pb, 3, none⟩ = some (.int .i64 p) := by
  have := h.blk
  refine ⟨?_, ?_⟩ <;> simp [World.cell?, this]
theorem PMd.nw {pb gT cT nb fb nx : Nat} {T : List By} {w w' : World} (h : PMd pb gT cT nb fb nx T w) (f : Nw w w') : PMd pb gT cT nb fb nx T w' :=
  ⟨f.heap h.blk, fun j hj => f.cell (h.txt j hj), h.near.nw f, h.far.nw f, h.d1, h.d2, h.d3, h.d4, h.d5, h.d6, h.tl, h.tc⟩
/-- A place is noted. -/
theorem PMd.noted {pb gT cT nb fb p : Nat} {T : List By} {w : World} (h : PMd pb gT cT nb fb p T w) (hp : p + 4 ≤ T.length) (hT : T.length ≤ 100000000) :
    ∃ W, (Instr.mapUpdate 97 (.map (some nb)) (kv (kat T p)) (.int .i64 p)).run Try.prog w = .ok () W ∧ W.cell? ⟨pb, 3, none⟩ = some (.int .i64 p) ∧ W.frozen? ⟨pb, 3, none⟩ = false ∧ W.cell? ⟨pb, 1, none⟩ = some (.map (some nb)) ∧ PLs pb gT cT nb fb (p + 1) T (W.setCell ⟨pb, 3, none⟩ (.int .i64 (p + 1 : Nat))) ∧ Fr (fun k => k = pb ∨ k = nb ∨ k = fb) w (W.setCell ⟨pb, 3, none⟩ (.int .i64 (p + 1 : Nat))) := by
  obtain ⟨W, hrun, hM, hF⟩ := h.near.store (kat T p) (kat_len hp) p (by omega) (by omega)
  have hb := (hF.block pb (Array.getElem?_eq_some_iff.1 h.blk).1 h.d2).trans h.blk
  have hFs : Fr (fun k => k = pb) W (W.setCell ⟨pb, 3, none⟩ (.int .i64 (p + 1 : Nat))) := (Fr.refl _ _).setCell _ _ (.inl rfl)
  have hu := ups_succ T p
  refine ⟨W, hrun, by simp [World.cell?, hb], by simp [World.frozen?, hb], by simp [World.cell?, hb], ?_, ?_⟩
  · refine ⟨?_, ?_, ?_, ?_, h.d1, h.d2, h.d3, h.d4, h.d5, h.d6, h.tl, h.tc⟩
    · simp [World.setCell, Array.getElem?_modify, hb]
    · exact fun j hj => hFs.cellv (hF.cellv (h.txt j hj) h.d5) h.d4
    · rw [hu]; exact hM.kept hFs h.d2.symm
    · rw [hu]; exact ((h.far.kept hF h.d1.symm).kept hFs h.d3.symm).mono (Nat.le_succ _)
  · exact (hF.mono (fun k hk => .inl (.inr (.inl hk)))).trans (hFs.mono (fun k hk => .inl (.inl hk)))
theorem keyM_any (V : World) (pb gT cT nb fb nx : Nat) (T : List By) (h : PMd pb gT cT nb fb nx T V) (p : Nat) (hp : p + 4 ≤ T.length) (hT : T.length ≤ 100000000) :
    Calls Try.prog 73 #[.pointer (some ⟨pb, 0, none⟩), .int .i64 p] V fun e w' => e = .returned (kv (kat T p)) ∧ Nw V w' := by
  have hb := h.blk
  exact key_cells V pb gT cT T (by simp [World.cell?, hb]) h.txt h.tl h.tc (Array.getElem?_eq_some_iff.1 hb).1 p hp hT
set_option maxHeartbeats 16000000 in
set_option maxRecDepth 100000 in
theorem note_any (V : World) (pb gT cT nb fb nx : Nat) (T : List By) (h : PLs pb gT cT nb fb nx T V) (at' : Nat) (hn : nx ≤ at') (ha : at' + 3 ≤ T.length) (hT : T.length ≤ 100000000) :
    Calls Try.prog 72 #[.pointer (some ⟨pb, 0, none⟩), .int .i64 ((at' : Int) - 1)] V fun e w' => (∃ r, e = .returned r) ∧ ∃ nb' fb', PLs pb gT cT nb' fb' at' T w' ∧ Fr (fun k => k = pb ∨ k = nb ∨ k = fb) V w' ∧ ((nb' = nb ∧ fb' = fb) ∨ (nb' = fb ∧ fb' = nb)) := by
  obtain ⟨P, hP⟩ : ∃ P : Ending → World → Prop, P = fun e w' => (∃ r, e = .returned r) ∧ ∃ nb' fb', PLs pb gT cT nb' fb' at' T w' ∧ Fr (fun k => k = pb ∨ k = nb ∨ k = fb) V w' ∧ ((nb' = nb ∧ fb' = fb) ∨ (nb' = fb ∧ fb' = nb)) := ⟨_, rfl⟩
  rw [← hP]
  have HP : Hid (P = fun e w' => (∃ r, e = .returned r) ∧ ∃ nb' fb', PLs pb gT cT nb' fb' at' T w' ∧ Fr (fun k => k = pb ∨ k = nb ∨ k = fb) V w' ∧ ((nb' = nb ∧ fb' = fb) ∨ (nb' = fb ∧ fb' = nb))) := hP
  clear hP
  have HI0 : Hid (∃ nb' fb', PLs pb gT cT nb' fb' nx T V ∧ Fr (fun k => k = pb ∨ k = nb ∨ k = fb) V V ∧ ((nb' = nb ∧ fb' = fb) ∨ (nb' = fb ∧ fb' = nb))) := ⟨nb, fb, h, Fr.refl _ _, .inl ⟨rfl, rfl⟩⟩
  have HT : Hid (T.length ≤ 100000000 ∧ at' + 3 ≤ T.length) := ⟨hT, ha⟩
  have hal : at' ≤ 100000000 := by omega
  clear h hT ha
  go_enter Try.func72, Try.ntmps72
  go_wp2
  go_loopg [] (at' + 1) (fun kx wr => ∃ (p : Nat), p ≤ at' ∧ at' + 1 - p ≤ kx ∧ Hid (∃ nb' fb', PLs pb gT cT nb' fb' p T wr ∧ Fr (fun k => k = pb ∨ k = nb ∨ k = fb) V wr ∧ ((nb' = nb ∧ fb' = fb) ∨ (nb' = fb ∧ fb' = nb))))
  case atStart => exact ⟨nx, by omega, by omega, HI0⟩
  case round =>
    obtain ⟨p, hp, hkx, HI⟩ := hrel
    clear HI0
    obtain ⟨nb', fb', hL, hF, hnf⟩ := HI.out
    obtain ⟨c0, c1, c2, c3⟩ := hL.cell
    have f1 := hL.froz 1
    have f2 := hL.froz 2
    have f3 := hL.froz 3
    by_cases hlt : p < at'
    · have hp4 : p + 4 ≤ T.length := by have := HT.out.2; omega
      have hz1 : (p : Int) ≤ (at' : Int) - 1 := by omega
      have hrem : Int.tmod (p : Int) 65536 = ((p % 65536 : Nat) : Int) := rfl
      -- what comes behind near and far are settled
      have tail : ∀ (nb2 fb2 : Nat) (V2 : World), PMd pb gT cT nb2 fb2 p T V2 → Fr (fun k => k = pb ∨ k = nb ∨ k = fb) V V2 → ((nb2 = nb ∧ fb2 = fb) ∨ (nb2 = fb ∧ fb2 = nb)) → V2.cell? ⟨pb, 1, none⟩ = some (.map (some nb2)) ∧ V2.cell? ⟨pb, 3, none⟩ = some (.int .i64 p) ∧ Hid (∀ V3, Nw V2 V3 → Calls Try.prog 73 #[.pointer (some ⟨pb, 0, none⟩), .int .i64 p] V3 fun e w1 => e = .returned (kv (kat T p)) ∧ (w1.cell? ⟨pb, 1, none⟩ = some (.map (some nb2)) ∧ w1.cell? ⟨pb, 3, none⟩ = some (.int .i64 p)) ∧ ∃ W, (Instr.mapUpdate 97 (.map (some nb2)) (kv (kat T p)) (.int .i64 p)).run Try.prog w1 = .ok () W ∧ W.cell? ⟨pb, 3, none⟩ = some (.int .i64 p) ∧ W.frozen? ⟨pb, 3, none⟩ = false ∧ W.cell? ⟨pb, 1, none⟩ = some (.map (some nb2)) ∧ Hid (∃ nb' fb', PLs pb gT cT nb' fb' (p + 1) T (W.setCell ⟨pb, 3, none⟩ (.int .i64 (p + 1 : Nat))) ∧ Fr (fun k => k = pb ∨ k = nb ∨ k = fb) V (W.setCell ⟨pb, 3, none⟩ (.int .i64 (p + 1 : Nat))) ∧ ((nb' = nb ∧ fb' = fb) ∨ (nb' = fb ∧ fb' = nb)))) := by
        intro nb2 fb2 V2 hM hF2 hnf2
        refine ⟨hM.pls.1, hM.pls.2, fun V3 hV3 => ?_⟩
        refine (keyM_any V3 pb gT cT nb2 fb2 p T (hM.nw hV3) p hp4 HT.out.1).mono ?_
        rintro e w1 ⟨rfl, hN1⟩
        have hM1 := (hM.nw hV3).nw hN1
        obtain ⟨W, k1, k2, k3, k4, k5, k6⟩ := hM1.noted hp4 HT.out.1
        have k6' : Fr (fun k => k = pb ∨ k = nb ∨ k = fb) w1 (W.setCell ⟨pb, 3, none⟩ (.int .i64 (p + 1 : Nat))) := k6.mono (fun k hk => .inl (by rcases hnf2 with ⟨rfl, rfl⟩ | ⟨rfl, rfl⟩ <;> rcases hk with hk | hk | hk <;> simp [hk]))
        exact ⟨rfl, hM1.pls, W, k1, k2, k3, k4, nb2, fb2, k5, (hF2.trans (hV3.trans hN1).any).trans k6', hnf2⟩
      by_cases hm : p % 65536 = 0
      · obtain ⟨W2, hcl, hM2, hF2⟩ := hL.swap hm
        have hF2' : Fr (fun k => k = pb ∨ k = nb ∨ k = fb) wr W2 := hF2.mono (fun k hk => .inl (by rcases hnf with ⟨rfl, rfl⟩ | ⟨rfl, rfl⟩ <;> rcases hk with hk | hk | hk <;> simp [hk]))
        obtain ⟨d1, d3, HK⟩ := tail fb' nb' W2 hM2 (hF.trans hF2') (by rcases hnf with h | h; exact .inr ⟨h.2, h.1⟩; exact .inl ⟨h.2, h.1⟩)
        have HCL : Hid (∀ ty, (Builtin.clear_ #[97] ty #[.map (some fb')]).run Try.prog ((wr.setCell ⟨pb, 1, none⟩ (.map (some fb'))).setCell ⟨pb, 2, none⟩ (.map (some nb'))).drew = .ok (.tuple #[]) W2) := hcl
        have hze : ((p % 65536 : Nat) : Int) = 0 := by omega
        have hpl : p ≤ 100000000 := by omega
        clear tail HI HP hF hnf hL hM2 hF2 hF2' hcl
        generalize hkk : kv (kat T p) = kk at *
        go_wp2_with fail
        go_region
        have hcl0 := HCL.out 0
        go_wp2_with fail
        go_region_held3 (fun w' => w'.cell? ⟨pb, 1, none⟩ = some (.map (some fb')) ∧ w'.cell? ⟨pb, 3, none⟩ = some (.int .i64 p)) (first | exact ⟨d1, d3⟩ | assumption | exact ⟨k4, k2⟩)
          (first | (go_at_call 73; with_reducible refine (HK.out _ (Fr.refl _ _).drew).mono ?_; rintro e w1 ⟨rfl, hz0, W, k1, k2, k3, k4, HE⟩))
        all_goals go_wp2_with fail
        all_goals go_roundg (at' + 1 - (p + 1))
        all_goals (first | omega | exact ⟨p + 1, by omega, by omega, HE⟩)
      · obtain ⟨_, _, HK⟩ := tail nb' fb' wr (hL.same hm) hF hnf
        have hze : ¬ ((p % 65536 : Nat) : Int) = 0 := by omega
        have hzb : (((p % 65536 : Nat) : Int) == 0) = false := by simp; omega
        have hpl : p ≤ 100000000 := by omega
        clear tail HI HP hL hF hnf
        generalize hkk : kv (kat T p) = kk at *
        generalize p % 65536 = pm at *
        go_wp2_with fail
        go_region_held3 (fun w' => w'.cell? ⟨pb, 1, none⟩ = some (.map (some nb')) ∧ w'.cell? ⟨pb, 3, none⟩ = some (.int .i64 p)) (first | exact ⟨c1, c3⟩ | assumption | exact ⟨k4, k2⟩)
          (first | (go_at_call 73; with_reducible refine (HK.out _ (Fr.refl _ _).drew).mono ?_; rintro e w1 ⟨rfl, hz0, W, k1, k2, k3, k4, HE⟩))
        all_goals go_wp2_with fail
        all_goals go_roundg (at' + 1 - (p + 1))
        all_goals (first | omega | exact ⟨p + 1, by omega, by omega, HE⟩)
    · obtain rfl : p = at' := by omega
      have hz1 : ¬ (p : Int) ≤ (p : Int) - 1 := by omega
      have HF : Hid (∀ r, P (.returned r) wr) := fun r => by
        rw [HP.out]
        exact ⟨⟨r, rfl⟩, nb', fb', hL, hF, hnf⟩
      clear HI HP hL hF hnf
      go_wp2_with fail
      go_end0
      exact HF.out _
end Go.Proofs.Ytdeefemeiggolaa

namespace Go.Proofs.Ytdeefemeiggolaa
open Go.RowKit
set_option linter.unusedVariables false
/-- What find answers. -/
def Fnd (pb gT cT nb fb : Nat) (T : List By) (at' : Nat) (V : World) (e : Ending) (w' : World) : Prop :=
  ∃ q : Nat, e = .returned (.tuple #[.int .i64 q, .bool (fnd T at').isSome]) ∧ (∀ f, fnd T at' = some f → q = f) ∧ ∃ nb' fb', PLs pb gT cT nb' fb' at' T w' ∧ Fr (fun k => k = pb ∨ k = nb ∨ k = fb) V w' ∧ ((nb' = nb ∧ fb' = fb) ∨ (nb' = fb ∧ fb' = nb))
theorem find_chain (V : World) (pb gT cT nb fb nx : Nat) (T : List By) (h : PLs pb gT cT nb fb nx T V) (at' : Nat) (hn : nx ≤ at') (ha : at' + 4 ≤ T.length) (hT : T.length ≤ 100000000) (P : Ending → World → Prop) (hP : P = Fnd pb gT cT nb fb T at' V) :
    Hid (Calls Try.prog 72 #[.pointer (some ⟨pb, 0, none⟩), .int .i64 ((at' : Int) - 1)] V fun e w1 => (∃ r, e = .returned r) ∧ Hid (Calls Try.prog 73 #[.pointer (some ⟨pb, 0, none⟩), .int .i64 at'] w1 fun e w2 => e = .returned (.agg #[.int .u8 T[at'].toNat, .int .u8 T[at' + 1].toNat, .int .u8 T[at' + 2].toNat, .int .u8 T[at' + 3].toNat]) ∧ ∃ nb' fb', pb < w2.heap.size ∧ w2.cell? ⟨pb, 1, none⟩ = some (.map (some nb')) ∧ w2.cell? ⟨pb, 2, none⟩ = some (.map (some fb')) ∧
      Hid (∀ W, Nw w2 W → (Instr.lookup 97 (.map (some nb')) (.agg #[.int .u8 T[at'].toNat, .int .u8 T[at' + 1].toNat, .int .u8 T[at' + 2].toNat, .int .u8 T[at' + 3].toNat]) true).run Try.prog W = .ok (.tuple #[.int .i64 (((ups T at').1 (kat T at')).getD 0 : Nat), .bool ((ups T at').1 (kat T at')).isSome]) W) ∧
      Hid (∀ W, Nw w2 W → (Instr.lookup 97 (.map (some fb')) (.agg #[.int .u8 T[at'].toNat, .int .u8 T[at' + 1].toNat, .int .u8 T[at' + 2].toNat, .int .u8 T[at' + 3].toNat]) true).run Try.prog W = .ok (.tuple #[.int .i64 (((ups T at').2 (kat T at')).getD 0 : Nat), .bool ((ups T at').2 (kat T at')).isSome]) W) ∧
      Hid (∀ W (q : Nat) (b : Bool), Nw w2 W → b = (fnd T at').isSome → (∀ f, fnd T at' = some f → q = f) → P (.returned (.tuple #[.int .i64 q, .bool b])) W))) := by
  show Calls _ _ _ _ _
  refine (note_any V pb gT cT nb fb nx T h at' hn (by omega) hT).mono ?_
  rintro e w1 ⟨hr, nb', fb', hL, hF, hnf⟩
  refine ⟨hr, ?_⟩
  show Calls _ _ _ _ _
  refine (key_any w1 pb gT cT nb' fb' at' T hL at' ha hT).mono ?_
  rintro e w2 ⟨rfl, hN⟩
  have hL2 := hL.nw hN
  have hkv : kv (kat T at') = .agg #[.int .u8 T[at'].toNat, .int .u8 T[at' + 1].toNat, .int .u8 T[at' + 2].toNat, .int .u8 T[at' + 3].toNat] := by rw [kat_four ha]; rfl
  obtain ⟨c0, c1, c2, c3⟩ := hL2.cell
  refine ⟨by rw [hkv], nb', fb', (Array.getElem?_eq_some_iff.1 hL2.blk).1, c1, c2, ?_, ?_, ?_⟩
  · intro W hW
    have := (hL2.near.nw hW).look (kat T at') (kat_len ha)
    rw [hkv] at this; exact this
  · intro W hW
    have := (hL2.far.nw hW).look (kat T at') (kat_len ha)
    rw [hkv] at this; exact this
  · intro W q b hW hb hq
    rw [hP]
    exact ⟨q, by rw [hb], hq, nb', fb', hL2.nw hW, (hF.trans hN.any).trans hW.any, hnf⟩
set_option maxHeartbeats 16000000 in
set_option maxRecDepth 100000 in
theorem find_any (V : World) (pb gT cT nb fb nx : Nat) (T : List By) (h : PLs pb gT cT nb fb nx T V) (at' : Nat) (hn : nx ≤ at') (ha : at' + 4 ≤ T.length) (hT : T.length ≤ 100000000) :
    Calls Try.prog 56 #[.pointer (some ⟨pb, 0, none⟩), .int .i64 at'] V (Fnd pb gT cT nb fb T at' V) := by
  obtain ⟨P, hP⟩ : ∃ P, P = Fnd pb gT cT nb fb T at' V := ⟨_, rfl⟩
  rw [← hP]
  have HC := find_chain V pb gT cT nb fb nx T h at' hn ha hT P hP
  have hal : at' ≤ 100000000 := by omega
  have hin := ups_in T at' (kat T at')
  have hfd : fnd T at' = match (ups T at').1 (kat T at') with
    | some q => if at' - q ≤ 65535 then some q else none
    | none => match (ups T at').2 (kat T at') with
      | some q => if at' - q ≤ 65535 then some q else none
      | none => none := rfl
  clear h hP
  generalize (ups T at').1 (kat T at') = r1 at *
  generalize (ups T at').2 (kat T at') = r2 at *
  generalize fnd T at' = F at *
  generalize T[at'].toNat = a at *
  generalize T[at' + 1].toNat = b at *
  generalize T[at' + 2].toNat = c at *
  generalize T[at' + 3].toNat = d at *
  cases r1 with
  | some q =>
    have hq := (hin q (.inl rfl)).1
    simp only [Option.getD_some, Option.isSome_some] at HC hfd
    clear hin
    by_cases hfar : at' - q ≤ 65535
    · rw [if_pos hfar] at hfd
      have hz1 : (at' : Int) - (q : Int) ≤ 65535 := by omega
      have hd1 : decide ((at' : Int) - (q : Int) ≤ 65535) = true := decide_eq_true hz1
      go_enter Try.func56, Try.ntmps56
      go_wp2_with (first
        | (go_at_call 72; with_reducible refine (HC.out).mono ?_; rintro e w1 ⟨⟨r, rfl⟩, HC2⟩)
        | (go_at_call 73; with_reducible refine (HC2.out).mono ?_; rintro e w2 ⟨rfl, nb', fb', hpb, c1, c2, HL1, HL2, HE⟩; have hne : ¬ pb = w2.heap.size := (by omega)))
      have hl1 := fun n => HL1.out ((w2.alloc (.cells #[.int .u8 a, .int .u8 b, .int .u8 c, .int .u8 d] 123)).drewN n) (((Fr.refl _ _).alloc _).drewN n)
      go_quiet (fail)
      go_wp2_with fail
      exact HE.out _ q true (((Fr.refl _ _).alloc _).drewN _) (by rw [hfd]; rfl) (fun f hf => by rw [hfd] at hf; injection hf)
    · rw [if_neg hfar] at hfd
      have hz1 : ¬ (at' : Int) - (q : Int) ≤ 65535 := by omega
      have hd1 : decide ((at' : Int) - (q : Int) ≤ 65535) = false := decide_eq_false hz1
      go_enter Try.func56, Try.ntmps56
      go_wp2_with (first
        | (go_at_call 72; with_reducible refine (HC.out).mono ?_; rintro e w1 ⟨⟨r, rfl⟩, HC2⟩)
        | (go_at_call 73; with_reducible refine (HC2.out).mono ?_; rintro e w2 ⟨rfl, nb', fb', hpb, c1, c2, HL1, HL2, HE⟩; have hne : ¬ pb = w2.heap.size := (by omega)))
      have hl1 := fun n => HL1.out ((w2.alloc (.cells #[.int .u8 a, .int .u8 b, .int .u8 c, .int .u8 d] 123)).drewN n) (((Fr.refl _ _).alloc _).drewN n)
      go_quiet (fail)
      go_wp2_with fail
      exact HE.out _ q false (((Fr.refl _ _).alloc _).drewN _) (by rw [hfd]; rfl) (fun f hf => by rw [hfd] at hf; cases hf)
  | none =>
    cases r2 with
    | some q =>
      have hq := (hin q (.inr rfl)).1
      simp only [Option.getD_some, Option.isSome_some, Option.getD_none, Option.isSome_none] at HC hfd
      clear hin
      by_cases hfar : at' - q ≤ 65535
      · rw [if_pos hfar] at hfd
        have hz1 : (at' : Int) - (q : Int) ≤ 65535 := by omega
        have hd1 : decide ((at' : Int) - (q : Int) ≤ 65535) = true := decide_eq_true hz1
        go_enter Try.func56, Try.ntmps56
        go_wp2_with (first
          | (go_at_call 72; with_reducible refine (HC.out).mono ?_; rintro e w1 ⟨⟨r, rfl⟩, HC2⟩)
          | (go_at_call 73; with_reducible refine (HC2.out).mono ?_; rintro e w2 ⟨rfl, nb', fb', hpb, c1, c2, HL1, HL2, HE⟩; have hne : ¬ pb = w2.heap.size := (by omega)))
        have hl1 := fun n => HL1.out ((w2.alloc (.cells #[.int .u8 a, .int .u8 b, .int .u8 c, .int .u8 d] 123)).drewN n) (((Fr.refl _ _).alloc _).drewN n)
        go_quiet (fail)
        go_wp2_with fail
        have hl2 := fun n m => HL2.out (((w2.alloc (.cells #[.int .u8 a, .int .u8 b, .int .u8 c, .int .u8 d] 123)).drewN n).drewN m) ((((Fr.refl _ _).alloc _).drewN n).drewN m)
        have hl3 := fun n => HL2.out ((w2.alloc (.cells #[.int .u8 a, .int .u8 b, .int .u8 c, .int .u8 d] 123)).drewN n) (((Fr.refl _ _).alloc _).drewN n)
        go_quiet (fail)
        go_wp2_with fail
        exact HE.out _ q true (((Fr.refl _ _).alloc _).drewN _) (by rw [hfd]; rfl) (fun f hf => by rw [hfd] at hf; injection hf)
      · rw [if_neg hfar] at hfd
        have hz1 : ¬ (at' : Int) - (q : Int) ≤ 65535 := by omega
        have hd1 : decide ((at' : Int) - (q : Int) ≤ 65535) = false := decide_eq_false hz1
        go_enter Try.func56, Try.ntmps56
        go_wp2_with (first
          | (go_at_call 72; with_reducible refine (HC.out).mono ?_; rintro e w1 ⟨⟨r, rfl⟩, HC2⟩)
          | (go_at_call 73; with_reducible refine (HC2.out).mono ?_; rintro e w2 ⟨rfl, nb', fb', hpb, c1, c2, HL1, HL2, HE⟩; have hne : ¬ pb = w2.heap.size := (by omega)))
        have hl1 := fun n => HL1.out ((w2.alloc (.cells #[.int .u8 a, .int .u8 b, .int .u8 c, .int .u8 d] 123)).drewN n) (((Fr.refl _ _).alloc _).drewN n)
        go_quiet (fail)
        go_wp2_with fail
        have hl2 := fun n m => HL2.out (((w2.alloc (.cells #[.int .u8 a, .int .u8 b, .int .u8 c, .int .u8 d] 123)).drewN n).drewN m) ((((Fr.refl _ _).alloc _).drewN n).drewN m)
        have hl3 := fun n => HL2.out ((w2.alloc (.cells #[.int .u8 a, .int .u8 b, .int .u8 c, .int .u8 d] 123)).drewN n) (((Fr.refl _ _).alloc _).drewN n)
        go_quiet (fail)
        go_wp2_with fail
        exact HE.out _ q false (((Fr.refl _ _).alloc _).drewN _) (by rw [hfd]; rfl) (fun f hf => by rw [hfd] at hf; cases hf)
    | none =>
      simp only [Option.getD_none, Option.isSome_none] at HC hfd
      clear hin
      go_enter Try.func56, Try.ntmps56
      go_wp2_with (first
        | (go_at_call 72; with_reducible refine (HC.out).mono ?_; rintro e w1 ⟨⟨r, rfl⟩, HC2⟩)
        | (go_at_call 73; with_reducible refine (HC2.out).mono ?_; rintro e w2 ⟨rfl, nb', fb', hpb, c1, c2, HL1, HL2, HE⟩; have hne : ¬ pb = w2.heap.size := (by omega)))
      have hl1 := fun n => HL1.out ((w2.alloc (.cells #[.int .u8 a, .int .u8 b, .int .u8 c, .int .u8 d] 123)).drewN n) (((Fr.refl _ _).alloc _).drewN n)
      go_quiet (fail)
      go_wp2_with fail
      have hl2 := fun n m => HL2.out (((w2.alloc (.cells #[.int .u8 a, .int .u8 b, .int .u8 c, .int .u8 d] 123)).drewN n).drewN m) ((((Fr.refl _ _).alloc _).drewN n).drewN m)
      have hl3 := fun n => HL2.out ((w2.alloc (.cells #[.int .u8 a, .int .u8 b, .int .u8 c, .int .u8 d] 123)).drewN n) (((Fr.refl _ _).alloc _).drewN n)
      go_quiet (fail)
      go_wp2_with fail
      exact HE.out _ 0 false (((Fr.refl _ _).alloc _).drewN _) (by rw [hfd]; rfl) (fun f hf => by rw [hfd] at hf; cases hf)
end Go.Proofs.Ytdeefemeiggolaa

namespace Go.Proofs.Ytdeefemeiggolaa
open Go.RowKit
set_option linter.unusedVariables false
theorem zeros_ow (w : World) (n G : Nat) (hG : n ≤ G) (hc : G < 9223372036854775808) : Ow w.heap.size (.slice (some ⟨w.heap.size, 0, none⟩) 0 G) [] (w.drew.alloc (.cells (Builtin.zeroCells (Value.int .u8 0).cells n ++ Builtin.zeroCells (Value.int .u8 0).cells (G - n)) 5)) := by
  refine ⟨List.replicate G 0#8, by simp, by simp, by simp, by simpa using hc, ?_⟩
  show (w.drew.heap.push _)[w.heap.size]? = _
  rw [zeroB, zeroB]
  have e : w.drew.heap = w.heap := rfl
  rw [e]
  simp
  omega
set_option maxHeartbeats 8000000 in
set_option maxRecDepth 100000 in
theorem grow_any (w : World) (n : Nat) (hn : n ≤ 100000000) : Calls Try.prog 71 #[.slice none 0 0, .int .i64 n] w fun e w' => ∃ a c, e = .returned (.slice a 0 c) ∧ Mine (fun k => k < w.heap.size) (.slice a 0 c) [] w' ∧ Nw w w' := by
  obtain ⟨P, hP⟩ : ∃ P : Ending → World → Prop, P = fun e w' => ∃ a c, e = .returned (.slice a 0 c) ∧ Mine (fun k => k < w.heap.size) (.slice a 0 c) [] w' ∧ Nw w w' := ⟨_, rfl⟩
  rw [← hP]
  have HP : Hid (P = fun e w' => ∃ a c, e = .returned (.slice a 0 c) ∧ Mine (fun k => k < w.heap.size) (.slice a 0 c) [] w' ∧ Nw w w') := hP
  clear hP
  by_cases h0 : n = 0
  · subst h0
    have HF : Hid (P (.returned (.slice none 0 0)) w) := by
      show P _ _
      rw [HP.out]
      exact ⟨_, _, rfl, .inl ⟨rfl, rfl⟩, Fr.refl _ _⟩
    clear HP
    go_enter Try.func71, Try.ntmps71
    go_wp2
    exact HF.out
  · obtain ⟨i, hi, hz, hs, hby⟩ := infoB
    have hrun := fun ty => Lib.run_append_nil_zeros w 22 3 ty 5 i (.int .u8 0) .i64 .i64 Try.underlying22 Try.underlying3 hi hz n (by omega) (by omega) (by omega) (by rw [hby]; omega)
    have hge := grownCap_ge w n 0 5
    have hle := grownCap_le_maxLen w n 0 5 (by unfold maxLen; omega)
    unfold maxLen at hle
    generalize grownCap w n 0 5 = G at *
    obtain ⟨W, hW⟩ : ∃ W, W = w.drew.alloc (.cells (Builtin.zeroCells (Value.int .u8 0).cells n ++ Builtin.zeroCells (Value.int .u8 0).cells (G - n)) 5) := ⟨_, rfl⟩
    rw [← hW] at hrun
    have HF : Hid (P (.returned (.slice (some ⟨w.heap.size, 0, none⟩) 0 G)) W) := by
      show P _ _
      rw [HP.out]
      refine ⟨_, _, rfl, .inr ⟨w.heap.size, by omega, ?_⟩, ?_⟩
      · rw [hW]; exact zeros_ow w n G (by omega) (by omega)
      · rw [hW]; exact (Fr.refl _ _).drew.alloc _
    have HAP : Hid (∀ ty, (Builtin.append_ #[22, 3] ty #[.slice none 0 0, .int .i64 n]).run Try.prog w = .ok (.slice (some ⟨w.heap.size, 0, none⟩) n G) W) := hrun
    have hz0 : ¬ (n : Int) < 0 := by omega
    have hz1 : (0 : Int) < (n : Int) := by omega
    clear HP hrun hW hi hz hs hby
    go_enter Try.func71, Try.ntmps71
    go_wp2_with (first
      | (at_builtin; refine Lib.wpList_append_run _ rfl _ _ 22 3 rfl (.slice none 0 0) (.int .i64 n) (by simp [Act.eval]) (by simp [Act.eval]) _ _ (HAP.out _) ?_))
    exact HF.out
set_option maxHeartbeats 8000000 in
set_option maxRecDepth 100000 in
theorem concat_any (w : World) (g : Nat) (va vp : Value) (a p : List By) (hg : g < w.heap.size) (c0 : w.cell? ⟨g, 0, none⟩ = some va) (c1 : w.cell? ⟨g, 1, none⟩ = some vp) (ha : Sl (fun k => w.heap.size ≤ k) va a w) (hp : Sl (fun k => w.heap.size ≤ k) vp p w) (hs : a.length + p.length ≤ 50000000) :
    Calls Try.prog 55 #[.slice (some ⟨g, 0, none⟩) 2 2] w fun e w' => ∃ a' c', e = .returned (.slice a' (a ++ p).length c') ∧ Mine (fun k => k < w.heap.size) (.slice a' (a ++ p).length c') (a ++ p) w' ∧ Nw w w' := by
  obtain ⟨P, hP⟩ : ∃ P : Ending → World → Prop, P = fun e w' => ∃ a' c', e = .returned (.slice a' (a ++ p).length c') ∧ Mine (fun k => k < w.heap.size) (.slice a' (a ++ p).length c') (a ++ p) w' ∧ Nw w w' := ⟨_, rfl⟩
  rw [← hP]
  have HP : Hid (P = fun e w' => ∃ a' c', e = .returned (.slice a' (a ++ p).length c') ∧ Mine (fun k => k < w.heap.size) (.slice a' (a ++ p).length c') (a ++ p) w' ∧ Nw w w') := hP
  clear hP
  obtain ⟨aa, ac, rfl, _, _⟩ := ha.form
  obtain ⟨pa, pc, rfl, _, _⟩ := hp.form
  have hN0 : ∀ {V}, Nw w V → Fr (fun k => ¬ k < w.heap.size) w V := fun h => h.any
  -- from what Grow gives to the end
  have HG : Hid (Calls Try.prog 71 #[.slice none 0 0, .int .i64 (a.length + p.length : Nat)] w fun e w1 => ∃ a1 d1, e = .returned (.slice a1 0 d1) ∧ w1.cell? ⟨g, 0, none⟩ = some (.slice aa a.length ac) ∧ ∃ a2 d2 W2, Hid (∀ ty, (Builtin.append_ #[22, 22] ty #[.slice a1 0 d1, .slice aa a.length ac]).run Try.prog w1 = .ok (.slice a2 a.length d2) W2) ∧ W2.cell? ⟨g, 1, none⟩ = some (.slice pa p.length pc) ∧ ∃ a3 d3 W3, Hid (∀ ty, (Builtin.append_ #[22, 22] ty #[.slice a2 a.length d2, .slice pa p.length pc]).run Try.prog W2 = .ok (.slice a3 (a ++ p).length d3) W3) ∧ Hid (P (.returned (.slice a3 (a ++ p).length d3)) W3)) := by
    show Calls _ _ _ _ _
    refine (grow_any w _ (by omega)).mono ?_
    rintro e w1 ⟨a1, d1, rfl, hM1, hN1⟩
    refine ⟨a1, d1, rfl, hN1.cell c0, ?_⟩
    obtain ⟨v2, W2, hap2, hM2, hF2⟩ := mine_app (fun k => k < w.heap.size) w1 (fun k hk => Nat.lt_of_lt_of_le hk hN1.size) _ [] hM1 (.slice aa a.length ac) a ((ha.nw hN1).mono (fun _ h => h.elim)) (by simp; omega)
    rw [List.nil_append] at hM2
    obtain ⟨a2, d2, rfl, _, _⟩ := hM2.sl.form
    have hN2 : Nw w W2 := Fr.then hN1 hF2 (fun k hk => .inr (by omega))
    refine ⟨a2, d2, W2, hap2, hN2.cell c1, ?_⟩
    obtain ⟨v3, W3, hap3, hM3, hF3⟩ := mine_app (fun k => k < w.heap.size) W2 (fun k hk => Nat.lt_of_lt_of_le hk hN2.size) _ a hM2 (.slice pa p.length pc) p ((hp.nw hN2).mono (fun _ h => h.elim)) (by omega)
    obtain ⟨a3, d3, rfl, _, _⟩ := hM3.sl.form
    refine ⟨a3, d3, W3, hap3, ?_⟩
    show P _ _
    rw [HP.out]
    exact ⟨a3, d3, rfl, hM3, Fr.then hN2 hF3 (fun k hk => .inr (by omega))⟩
  clear HP ha hp hN0
  generalize (a ++ p).length = T at *
  generalize a.length = A at *
  generalize p.length = N at *
  generalize hSN : A + N = SN at *
  go_enter Try.func55, Try.ntmps55
  go_wp2
  go_loopg [3, 11] 3 (fun kx s i wr => wr = w ∧ ∃ I S : Nat, 3 - I ≤ kx ∧ s = .int .i64 S ∧ i = .int .i64 I ∧ ((I = 0 ∧ S = 0) ∨ (I = 1 ∧ S = A) ∨ (I = 2 ∧ S = SN)))
  case atStart => exact ⟨rfl, 0, 0, by omega, rfl, rfl, .inl ⟨rfl, rfl⟩⟩
  case round =>
    obtain ⟨rfl, I, S, hkx, rfl, rfl, hI⟩ := hrel
    rcases hI with ⟨rfl, rfl⟩ | ⟨rfl, rfl⟩ | ⟨rfl, rfl⟩
    · clear HG
      have hz : ¬ (A : Int) < 0 := by omega
      go_wp2
      go_roundg 2
      all_goals (first | omega | exact ⟨rfl, 1, A, by omega, rfl, rfl, .inr (.inl ⟨rfl, rfl⟩)⟩)
    · clear HG
      have hz : (S : Int) + (N : Int) = (SN : Int) := by omega
      have hz1 : ¬ (SN : Int) < 0 := by omega
      go_wp2
      go_roundg 1
      all_goals (first | omega | exact ⟨rfl, 2, SN, by omega, rfl, rfl, .inr (.inr ⟨rfl, rfl⟩)⟩)
    · go_wp2_with (first
        | (go_at_call 71; with_reducible refine (HG.out).mono ?_; rintro e w1 ⟨a1, d1, rfl, x0, a2, d2, W2, HAP2, x1, a3, d3, W3, HAP3, HF⟩))
      go_loopg [6, 27] 3 (fun kx v i wr => ∃ I : Nat, 3 - I ≤ kx ∧ i = .int .i64 I ∧ ((I = 0 ∧ v = .slice a1 0 d1 ∧ wr = w1) ∨ (I = 1 ∧ v = .slice a2 A d2 ∧ wr = W2) ∨ (I = 2 ∧ v = .slice a3 T d3 ∧ wr = W3)))
      case atStart => exact ⟨0, by omega, rfl, .inl ⟨rfl, rfl, rfl⟩⟩
      case round =>
        obtain ⟨I, hkx, rfl, hI⟩ := hrel
        rcases hI with ⟨rfl, rfl, rfl⟩ | ⟨rfl, rfl, rfl⟩ | ⟨rfl, rfl, rfl⟩
        · go_wp2_with (first
            | (at_builtin; refine Lib.wpList_append_run _ rfl _ _ 22 22 rfl (.slice a1 0 d1) (.slice aa A ac) (by simp [Act.eval]) (by simp [Act.eval]) _ _ (HAP2.out _) ?_))
          go_roundg 2
          all_goals (first | omega | exact ⟨1, by omega, rfl, .inr (.inl ⟨rfl, rfl, rfl⟩)⟩)
        · go_wp2_with (first
            | (at_builtin; refine Lib.wpList_append_run _ rfl _ _ 22 22 rfl (.slice a2 A d2) (.slice pa N pc) (by simp [Act.eval]) (by simp [Act.eval]) _ _ (HAP3.out _) ?_))
          go_roundg 1
          all_goals (first | omega | exact ⟨2, by omega, rfl, .inr (.inr ⟨rfl, rfl, rfl⟩)⟩)
        · go_wp2_with fail
          exact HF.out
end Go.Proofs.Ytdeefemeiggolaa

namespace Go.Proofs.Ytdeefemeiggolaa
open Go.RowKit
set_option linter.unusedVariables false
theorem PLs.kept {pb gT cT nb fb nx : Nat} {T : List By} {w w' : World} {X : Nat → Prop} (h : PLs pb gT cT nb fb nx T w) (f : Fr X w w') (h1 : ¬ X pb) (h2 : ¬ X gT) (h3 : ¬ X nb) (h4 : ¬ X fb) : PLs pb gT cT nb fb nx T w' :=
  ⟨(f.block pb (Array.getElem?_eq_some_iff.1 h.blk).1 h1).trans h.blk, fun j hj => f.cellv (h.txt j hj) h2, h.near.kept f h3, h.far.kept f h4, h.d1, h.d2, h.d3, h.d4, h.d5, h.d6, h.tl, h.tc⟩
/-- How the encoder's loop stands. -/
structure EnI (w : World) (W0 pb gT cT A : Nat) (T : List By) (b a : Nat) (ms : List Sq) (nb fb nx : Nat) (vb : Value) (wr : World) : Prop where
  pls : PLs pb gT cT nb fb nx T wr
  nx : nx ≤ a
  ei : EI T A b a ms
  al : a ≤ T.length
  mine : Mine (fun k => k < W0) vb (ms.flatMap encS) wr
  lo : w.heap.size ≤ pb ∧ w.heap.size ≤ nb ∧ w.heap.size ≤ fb
  hi : pb < W0 ∧ gT < W0 ∧ nb < W0 ∧ fb < W0
  nw : Nw w wr
  ent : ∀ r, EncTo T b a ms r → EncTo T A A [] r
  sz : W0 ≤ wr.heap.size
  wz : w.heap.size ≤ W0
abbrev EnR (w : World) (W0 pb gT cT A : Nat) (T : List By) (b a : Nat) (vb : Value) (wr : World) : Prop := ∃ ms nb fb nx, EnI w W0 pb gT cT A T b a ms nb fb nx vb wr
theorem encP_sq (s : Sq) (h : canS s) : encP ⟨s.p, s.b, s.n⟩ = encS s := by
  unfold encP
  rw [if_neg (by have := h.1; show ¬ (s.b : Int) = 0; omega)]
  simp
/-- A round with no hit. -/
theorem EnR.skip {w : World} {W0 pb gT cT A : Nat} {T : List By} {b a : Nat} {vb : Value} {wr : World} (h : EnR w W0 pb gT cT A T b a vb wr) (hT : T.length ≤ 10000000) (h12 : a + 12 ≤ T.length) (hf : fnd T a = none) :
    Hid (Calls Try.prog 56 #[.pointer (some ⟨pb, 0, none⟩), .int .i64 a] wr fun e w1 => ∃ q : Nat, e = .returned (.tuple #[.int .i64 q, .bool false]) ∧ Hid (EnR w W0 pb gT cT A T b (a + 1) vb w1)) := by
  obtain ⟨ms, nb, fb, nx, h⟩ := h
  show Calls _ _ _ _ _
  refine (find_any wr pb gT cT nb fb nx T h.pls a h.nx (by omega) (by omega)).mono ?_
  rintro e w1 ⟨q, rfl, _, nb', fb', hL, hF, hnf⟩
  refine ⟨q, by rw [hf]; rfl, ?_⟩
  have hhi := h.hi
  have hlo := h.lo
  have hFz : ∀ k, (k = pb ∨ k = nb ∨ k = fb) → k < W0 := fun k hk => by rcases hk with rfl | rfl | rfl; exact hhi.1; exact hhi.2.2.1; exact hhi.2.2.2
  refine ⟨ms, nb', fb', a, hL, Nat.le_succ _, h.ei.skip, by omega, ?_, by rcases hnf with ⟨rfl, rfl⟩ | ⟨rfl, rfl⟩ <;> omega, by rcases hnf with ⟨rfl, rfl⟩ | ⟨rfl, rfl⟩ <;> omega, ?_, fun r hr => h.ent r (.skip h12 hf hr), Nat.le_trans h.sz hF.size, h.wz⟩
  · exact h.mine.kept hF (fun k hk => .inl (hFz k hk))
  · exact Fr.then h.nw hF (fun k hk => .inr (by rcases hk with rfl | rfl | rfl <;> omega))
/-- A round with a hit. -/
theorem EnR.hit {w : World} {W0 pb gT cT A : Nat} {T : List By} {b a : Nat} {vb : Value} {wr : World} (h : EnR w W0 pb gT cT A T b a vb wr) (hT : T.length ≤ 10000000) (h12 : a + 12 ≤ T.length) (f k n : Nat) (hf : fnd T a = some f) (hk : k = alkA T b f a) (hn : n = cm ((T.take (T.length - 5)).drop (f - k)) ((T.take (T.length - 5)).drop (a - k))) :
    Hid (Calls Try.prog 56 #[.pointer (some ⟨pb, 0, none⟩), .int .i64 a] wr fun e w1 => e = .returned (.tuple #[.int .i64 f, .bool true]) ∧ Hid (Calls Try.prog 57 #[.slice (some ⟨gT, 0, none⟩) T.length cT, .int .i64 f, .int .i64 a, .int .i64 b] w1 fun e w2 => e = .returned (.int .i64 k) ∧ Hid (Calls Try.prog 58 #[.slice (some ⟨gT, 0, none⟩) (T.length - 5) cT, .int .i64 (f - k : Nat), .int .i64 (a - k : Nat)] w2 fun e w3 => e = .returned (.int .i64 n) ∧ Hid (Calls Try.prog 59 #[vb, .agg #[.slice (some ⟨gT, b, none⟩) (a - k - b) (cT - b), .int .i64 (a - f : Nat), .int .i64 n]] w3 fun e w4 => ∃ v', e = .returned v' ∧ Hid (EnR w W0 pb gT cT A T (a - k + n) (a - k + n) v' w4))))) := by
  obtain ⟨ms, nb, fb, nx, h⟩ := h
  have hh := hit_of h.ei.ba h12 hf hk hn
  obtain ⟨i1, i2, i3, i4, i5, i6, i7, i8⟩ := hh
  have hba := h.ei.ba
  have hbi := h.ei.hi
  have hhi := h.hi
  have hlo := h.lo
  have hFz : ∀ k, (k = pb ∨ k = nb ∨ k = fb) → k < W0 := fun k hk => by rcases hk with rfl | rfl | rfl; exact hhi.1; exact hhi.2.2.1; exact hhi.2.2.2
  show Calls _ _ _ _ _
  refine (find_any wr pb gT cT nb fb nx T h.pls a h.nx (by omega) (by omega)).mono ?_
  rintro e w1 ⟨q, rfl, hq, nb', fb', hL, hF, hnf⟩
  obtain rfl := hq f hf
  refine ⟨by rw [hf]; rfl, ?_⟩
  have hIn : ∀ {V}, Nw w1 V → In (some ⟨gT, 0, none⟩) cT T V := fun hV => ⟨hL.tl, hL.tc, by omega, fun _ => ⟨gT, 0, rfl, (hL.nw hV).txt⟩⟩
  show Calls _ _ _ _ _
  refine (alikeAhead_any w1 (some ⟨gT, 0, none⟩) cT T (hIn (Fr.refl _ _)) q a b i3 hba (by omega) h.al).mono ?_
  rintro e w2 ⟨rfl, hN2⟩
  refine ⟨by rw [hk], ?_⟩
  have hlt : (T.take (T.length - 5)).length = T.length - 5 := by simp
  show Calls _ _ _ _ _
  have hAl := alike_any w2 (some ⟨gT, 0, none⟩) cT (T.take (T.length - 5)) ⟨by rw [hlt]; have := hL.tl; omega, hL.tc, by omega, fun _ => ⟨gT, 0, rfl, (hL.nw hN2).txt.take _⟩⟩ (q - k) (a - k) (by omega) (by omega) (by omega)
  rw [hlt, ← hn] at hAl
  refine hAl.mono ?_
  rintro e w3 ⟨rfl, hN3⟩
  refine ⟨rfl, ?_⟩
  have hN13 : Nw w1 w3 := hN2.trans hN3
  have hL3 := hL.nw hN13
  have hpl : ((T.drop b).take (a - k - b)).length = a - k - b := by simp; omega
  have hM1 : Mine (fun k => k < W0) vb (ms.flatMap encS) w3 := (h.mine.kept hF (fun k hk => .inl (hFz k hk))).nw hN13
  have hsz3 : W0 ≤ w3.heap.size := Nat.le_trans h.sz (Nat.le_trans hF.size hN13.size)
  have hml := h.ei.len
  have hcan : canS ⟨(T.drop b).take (a - k - b), a - q, n⟩ := ⟨by show 1 ≤ a - q; omega, i4, by show 4 ≤ n; omega⟩
  have hput := put_any (fun k => k < W0) w3 (fun k hk => Nat.lt_of_lt_of_le hk hsz3) vb (ms.flatMap encS) hM1 (.slice (some ⟨gT, b, none⟩) (a - k - b) (cT - b)) ⟨(T.drop b).take (a - k - b), (a - q : Nat), n⟩ (.inr ⟨gT, by omega, b, cT - b, by rw [hpl], by rw [hpl]; have := hL.tl; omega, by have := hL.tc; omega, by
    have := (hL3.txt.drop b).take (a - k - b)
    rw [Nat.zero_add] at this; exact this⟩) (by show ((T.drop b).take (a - k - b)).length ≤ _; rw [hpl]; omega) (by show (n : Int) ≤ _; omega) (.inr ⟨by show (1 : Int) ≤ ((a - q : Nat) : Int); omega, by show ((a - q : Nat) : Int) ≤ 65535; omega, by show (4 : Int) ≤ (n : Int); omega⟩) (by omega)
  show Calls _ _ _ _ _
  refine hput.mono ?_
  rintro e w4 ⟨v', rfl, hM4, hF4⟩
  refine ⟨v', rfl, ?_⟩
  have hL4 := hL3.kept hF4 (fun h => h hhi.1) (fun h => h hhi.2.1) (fun h => h (by rcases hnf with ⟨rfl, rfl⟩ | ⟨rfl, rfl⟩ <;> omega)) (fun h => h (by rcases hnf with ⟨rfl, rfl⟩ | ⟨rfl, rfl⟩ <;> omega))
  have e1 : encP ⟨(T.drop b).take (a - k - b), (a - q : Nat), n⟩ = encS ⟨(T.drop b).take (a - k - b), a - q, n⟩ := encP_sq _ hcan
  refine ⟨ms ++ [⟨(T.drop b).take (a - k - b), a - q, n⟩], nb', fb', a, hL4, by omega, h.ei.hit (hit_of hba h12 hf hk hn), by omega, ?_, by rcases hnf with ⟨rfl, rfl⟩ | ⟨rfl, rfl⟩ <;> omega, by rcases hnf with ⟨rfl, rfl⟩ | ⟨rfl, rfl⟩ <;> omega, ?_, fun r hr => h.ent r (.hit h12 hf hk hn hr), Nat.le_trans hsz3 hF4.size, h.wz⟩
  · rw [e1] at hM4
    simpa [List.flatMap_append] using hM4
  · refine Fr.then ?_ hF4 (fun k hk => .inr (by have := h.wz; omega))
    exact (Fr.then h.nw hF (fun k hk => .inr (by rcases hk with rfl | rfl | rfl <;> omega))).trans hN13
/-- The last plain bytes. -/
theorem EnR.last {w : World} {W0 pb gT cT A : Nat} {T : List By} {b a : Nat} {vb : Value} {wr : World} (h : EnR w W0 pb gT cT A T b a vb wr) (hT : T.length ≤ 10000000) (h12 : ¬ a + 12 ≤ T.length) (ad : Nat) (had : ad = b ∨ b = cT) :
    Hid (Calls Try.prog 59 #[vb, .agg #[.slice (some ⟨gT, ad, none⟩) (T.length - b) (cT - b), .int .i64 0, .int .i64 0]] wr fun e w4 => ∃ a' c' ms e', e = .returned (.slice a' (mk ms (T.drop e')).length c') ∧ EncTo T A A [] (ms, e') ∧ EI T A e' a ms ∧ Mine (fun k => k < w.heap.size) (.slice a' (mk ms (T.drop e')).length c') (mk ms (T.drop e')) w4 ∧ Nw w w4) := by
  obtain ⟨ms, nb, fb, nx, h⟩ := h
  have hhi := h.hi
  have hbi := h.ei.hi
  have htl := h.pls.tl
  have htc := h.pls.tc
  have hml := h.ei.len
  have hput := put_any (fun k => k < W0) wr (fun k hk => Nat.lt_of_lt_of_le hk h.sz) vb (ms.flatMap encS) h.mine (.slice (some ⟨gT, ad, none⟩) (T.length - b) (cT - b)) ⟨T.drop b, 0, 0⟩ (.inr ⟨gT, by omega, ad, cT - b, by simp, by simp; omega, by omega, by
    rcases had with rfl | had
    · have := h.pls.txt.drop ad
      rw [Nat.zero_add] at this; exact this
    · show Rd gT ad (T.drop b) wr
      rw [List.drop_of_length_le (by omega)]; exact Rd.nil _ _ _⟩) (by show (T.drop b).length ≤ _; simp; omega) (by show (0 : Int) ≤ _; omega) (.inl ⟨rfl, rfl⟩) (by omega)
  show Calls _ _ _ _ _
  refine hput.mono ?_
  rintro e w4 ⟨v', rfl, hM4, hF4⟩
  have e1 : ms.flatMap encS ++ encP ⟨T.drop b, 0, 0⟩ = mk ms (T.drop b) := by unfold mk encP; rw [if_pos rfl]
  rw [e1] at hM4
  obtain ⟨a', c', rfl, _, _⟩ := hM4.sl.form
  exact ⟨a', c', ms, b, rfl, h.ent _ (.done h12), h.ei, hM4.more (fun g hg => .inl (Nat.lt_of_lt_of_le hg h.wz)), Fr.then h.nw hF4 (fun k hk => .inr (by have := h.wz; omega))⟩
end Go.Proofs.Ytdeefemeiggolaa

namespace Go.Proofs.Ytdeefemeiggolaa
open Go.RowKit
set_option linter.unusedVariables false
/-- What encode answers. -/
def Encd (T : List By) (A : Nat) (w : World) (e : Ending) (w' : World) : Prop :=
  ∃ a' c' ms e', e = .returned (.slice a' (mk ms (T.drop e')).length c') ∧ EncTo T A A [] (ms, e') ∧ (∃ a, EI T A e' a ms) ∧ Mine (fun k => k < w.heap.size) (.slice a' (mk ms (T.drop e')).length c') (mk ms (T.drop e')) w' ∧ Nw w w'
theorem EnR.begin (w w1 : World) (hN : Nw w w1) (gT cT A : Nat) (T : List By) (hg : w.heap.size ≤ gT) (hO : Ow gT (.slice (some ⟨gT, 0, none⟩) T.length cT) T w1) (hA : A ≤ T.length) :
    Hid (EnR w (w1.heap.size + 3) (w1.heap.size + 2) gT cT A T A A (.slice none 0 0) (((w1.alloc (.map #[] 0)).alloc (.map #[] 0)).alloc (.cells #[.slice (some ⟨gT, 0, none⟩) T.length cT, .map (some w1.heap.size), .map (some (w1.heap.size + 1)), .int .i64 0] 99))) := by
  have hgl := hO.lt
  have hs := hN.size
  have s1 : (w1.alloc (.map #[] 0)).heap.size = w1.heap.size + 1 := by simp
  have s2 : ((w1.alloc (.map #[] 0)).alloc (.map #[] 0)).heap.size = w1.heap.size + 2 := by simp
  have hN3 : Nw w1 (((w1.alloc (.map #[] 0)).alloc (.map #[] 0)).alloc (.cells #[.slice (some ⟨gT, 0, none⟩) T.length cT, .map (some w1.heap.size), .map (some (w1.heap.size + 1)), .int .i64 0] 99)) := (((Fr.refl _ _).alloc _).alloc _).alloc _
  have hN2 : Nw (w1.alloc (.map #[] 0)) (((w1.alloc (.map #[] 0)).alloc (.map #[] 0)).alloc (.cells #[.slice (some ⟨gT, 0, none⟩) T.length cT, .map (some w1.heap.size), .map (some (w1.heap.size + 1)), .int .i64 0] 99)) := ((Fr.refl _ _).alloc _).alloc _
  have m1 := (MpO.made w1).nw hN2
  have m2 := (MpO.made (w1.alloc (.map #[] 0))).nw (w' := ((w1.alloc (.map #[] 0)).alloc (.map #[] 0)).alloc (.cells #[.slice (some ⟨gT, 0, none⟩) T.length cT, .map (some w1.heap.size), .map (some (w1.heap.size + 1)), .int .i64 0] 99)) ((Fr.refl _ _).alloc _)
  rw [s1] at m2
  obtain ⟨o, c', e, h1, h2, h3⟩ := hO.slb
  injection e with e1 e2 e3
  injection e1 with e1
  injection e1 with _ e1
  subst e1 e3
  refine ⟨[], w1.heap.size, w1.heap.size + 1, 0, ⟨⟨?_, fun j hj => hN3.cell (h3 j hj), m1, m2, by omega, by omega, by omega, by omega, by omega, by omega, h1, h2⟩, Nat.zero_le _, EI.start T A hA, hA, .inl ⟨rfl, rfl⟩, by omega, by omega, hN.trans hN3, fun r hr => hr, by simp, by omega⟩⟩
  have hh := heap_alloc_new ((w1.alloc (.map #[] 0)).alloc (.map #[] 0)) (.cells #[.slice (some ⟨gT, 0, none⟩) T.length cT, .map (some w1.heap.size), .map (some (w1.heap.size + 1)), .int .i64 0] 99)
  rw [s2] at hh
  exact hh
set_option maxHeartbeats 32000000 in
set_option maxRecDepth 100000 in
theorem encode_any (w : World) (vp va : Value) (p ahead : List By) (hp : Old w vp p) (ha : Old w va ahead) (hpl : p.length ≤ 4194304) (hal : ahead.length ≤ 65535) :
    Calls Try.prog 43 #[vp, va] w (Encd (ahead ++ p) ahead.length w) := by
  obtain ⟨P, hP⟩ : ∃ P, P = Encd (ahead ++ p) ahead.length w := ⟨_, rfl⟩
  rw [← hP]
  have HP : Hid (P = Encd (ahead ++ p) ahead.length w) := hP
  clear hP
  have hTl : (ahead ++ p).length = ahead.length + p.length := List.length_append
  obtain ⟨T, hTd⟩ : ∃ T, T = ahead ++ p := ⟨_, rfl⟩
  have hA0 : Nw w (w.alloc (.cells #[va, vp] 22)) := (Fr.refl _ _).alloc _
  have hsz0 : (w.alloc (.cells #[va, vp] 22)).heap.size = w.heap.size + 1 := by simp
  have HCC : Hid (Calls Try.prog 55 #[.slice (some ⟨w.heap.size, 0, none⟩) 2 2] (w.alloc (.cells #[va, vp] 22)) fun e w1 => ∃ a' c', e = .returned (.slice a' T.length c') ∧ Hid (Mine (fun k => k < w.heap.size) (.slice a' T.length c') T w1 ∧ Nw w w1)) := by
    show Calls _ _ _ _ _
    refine (concat_any _ w.heap.size va vp ahead p (by omega) (new_cell _ _ _ _ _ rfl) (new_cell _ _ _ _ _ rfl) (Sl.later ha hA0) (Sl.later hp hA0) (by omega)).mono ?_
    rw [← hTd]
    rintro e w1 ⟨a', c', rfl, hM, hN⟩
    exact ⟨a', c', rfl, hM.more (fun g hg => .inl (by omega)), hA0.trans hN⟩
  rw [← hTd] at HP hTl
  obtain ⟨aa, ac, rfl, _, _⟩ := ha.form
  obtain ⟨pa, pc, rfl, _, _⟩ := hp.form
  have hmm := @run_makeMap Try.prog
  clear hp ha hsz0 hA0
  generalize hA : ahead.length = A at *
  generalize p.length = N0 at *
  have HN : Hid (T.length ≤ 10000000 ∧ A ≤ T.length) := ⟨by omega, by omega⟩
  clear hTd hTl hA
  go_enter Try.func43, Try.ntmps43
  go_wp2_with (first
    | (go_at_call 55; with_reducible refine (HCC.out).mono ?_; rintro e w1 ⟨a', c', rfl, HM1⟩))
  clear HCC hmm
  rcases HM1.out.1 with ⟨e0, hT0⟩ | ⟨gT, hgT, hO⟩
  · subst hT0
    injection e0 with e1 _ e2
    subst e1 e2
    obtain rfl : A = 0 := by have := HN.out.2; simpa using this
    have hN1 := HM1.out.2
    have hs1 := hN1.size
    have hN3 : Nw w (((w1.alloc (.map #[] 0)).alloc (.map #[] 0)).alloc (.cells #[.slice none 0 0, .map (some w1.heap.size), .map (some (w1.heap.size + 1)), .int .i64 0] 99)) := ((hN1.alloc _).alloc _).alloc _
    have HL' : Hid (Calls Try.prog 59 #[.slice none 0 0, .agg #[.slice none 0 0, .int .i64 0, .int .i64 0]] (((w1.alloc (.map #[] 0)).alloc (.map #[] 0)).alloc (.cells #[.slice none 0 0, .map (some w1.heap.size), .map (some (w1.heap.size + 1)), .int .i64 0] 99)) fun e w5 => ∃ a5 c5, e = .returned (.slice a5 (mk [] ([] : List By)).length c5) ∧ Hid (P (.returned (.slice a5 (mk [] ([] : List By)).length c5)) w5)) := by
      show Calls _ _ _ _ _
      refine (put_any (fun k => k < w.heap.size) _ (fun k hk => Nat.lt_of_lt_of_le hk hN3.size) (.slice none 0 0) [] (.inl ⟨rfl, rfl⟩) (.slice none 0 0) ⟨[], 0, 0⟩ (.inl ⟨none, rfl, rfl⟩) (by simp) (by simp) (.inl ⟨rfl, rfl⟩) (by simp)).mono ?_
      rintro e w5 ⟨v5, rfl, hM5, hF5⟩
      have e1 : [] ++ encP ⟨[], 0, 0⟩ = mk [] ([] : List By) := by unfold mk encP; rw [if_pos rfl]; rfl
      rw [e1] at hM5
      obtain ⟨a5, c5, rfl, _, _⟩ := hM5.sl.form
      refine ⟨a5, c5, rfl, ?_⟩
      show P _ _
      rw [HP.out]
      exact ⟨a5, c5, [], 0, rfl, .done (by simp), ⟨0, EI.start [] 0 (by simp)⟩, hM5, Fr.then hN3 hF5 (fun k hk => .inr (by omega))⟩
    clear HM1 HP hN3 hN1
    simp only [List.length_nil]
    generalize hWW : (((w1.alloc (.map #[] 0)).alloc (.map #[] 0)).alloc (.cells #[.slice none 0 0, .map (some w1.heap.size), .map (some (w1.heap.size + 1)), .int .i64 0] 99)) = W5 at *
    go_loopg [7, 8, 9] 1 (fun kx vb bg at' wr => vb = .slice none 0 0 ∧ bg = .int .i64 0 ∧ at' = .int .i64 0 ∧ wr = W5)
    case atStart => exact ⟨rfl, rfl, rfl, rfl⟩
    case round =>
      obtain ⟨rfl, rfl, rfl, rfl⟩ := hrel
      go_wp2_with (first
        | (go_at_call 59; with_reducible refine (HL'.out).mono ?_; rintro e w5 ⟨a5, c5, rfl, HE5⟩))
      exact HE5.out
  · have hgT' : w.heap.size ≤ gT := by omega
    have hO' := hO
    obtain ⟨xs, e0, _, hxl, hxc, _⟩ := hO'
    injection e0 with e1 _ e2
    subst e1 e2
    have HB := EnR.begin w w1 HM1.out.2 gT xs.length A T hgT' hO HN.out.2
    have HPE : Hid (∀ e W, (∃ a' c' ms e', e = .returned (.slice a' (mk ms (T.drop e')).length c') ∧ EncTo T A A [] (ms, e') ∧ (∃ a, EI T A e' a ms) ∧ Mine (fun k => k < w.heap.size) (.slice a' (mk ms (T.drop e')).length c') (mk ms (T.drop e')) W ∧ Nw w W) → P e W) := fun e W h => by rw [HP.out]; exact h
    clear HM1 HP hO hgT hgT'
    generalize xs.length = cT at *
    generalize hW0 : w1.heap.size + 3 = W0 at *
    generalize hpb : w1.heap.size + 2 = pb at *
    have HTl : Hid (T.length = T.length) := rfl
    generalize hNN : T.length = N at *
    have hNN' : Hid (T.length = N) := hNN
    clear hNN HTl
    go_loopg [7, 8, 9] (N + 1) (fun kx vb bg at' wr => ∃ b a : Nat, b ≤ a ∧ a ≤ N ∧ N + 1 - a ≤ kx ∧ (∃ x y z, vb = .slice x y z) ∧ bg = .int .i64 b ∧ at' = .int .i64 a ∧ Hid (EnR w W0 pb gT cT A T b a vb wr))
    case atStart => exact ⟨A, A, by omega, by have := HN.out; omega, by omega, ⟨_, _, _, rfl⟩, rfl, rfl, HB⟩
    case round =>
      obtain ⟨b, a, hba, haN, hkx, ⟨x7, y7, z7, rfl⟩, rfl, rfl, HI⟩ := hrel
      clear HB
      have hNl : N ≤ 10000000 := HN.out.1
      obtain ⟨hcT, hcT2⟩ : N ≤ cT ∧ cT < 9223372036854775808 := by
        obtain ⟨ms, nb, fb, nx, h⟩ := HI.out
        exact ⟨by rw [← hNN'.out]; exact h.pls.tl, h.pls.tc⟩
      by_cases h12 : a + 12 ≤ N
      · have hz0 : (a : Int) ≤ (N : Int) - 12 := by omega
        cases hf : fnd T a with
        | none =>
          have HS := HI.out.skip (by rw [hNN'.out]; exact hNl) (by rw [hNN'.out]; exact h12) hf
          clear HI HPE
          go_wp2_with (first
            | (go_at_call 56; with_reducible refine (HS.out).mono ?_; rintro e w2 ⟨q, rfl, HI2⟩))
          go_roundg (N + 1 - (a + 1))
          all_goals (first | omega | exact ⟨b, a + 1, by omega, by omega, by omega, ⟨_, _, _, rfl⟩, rfl, by first | rfl | (congr 1), HI2⟩)
        | some f =>
          obtain ⟨k, hk⟩ : ∃ k, k = alkA T b f a := ⟨_, rfl⟩
          obtain ⟨n, hn⟩ : ∃ n, n = cm ((T.take (T.length - 5)).drop (f - k)) ((T.take (T.length - 5)).drop (a - k)) := ⟨_, rfl⟩
          have hh := hit_of hba (by rw [hNN'.out]; exact h12) hf hk hn
          have HH := HI.out.hit (by rw [hNN'.out]; exact hNl) (by rw [hNN'.out]; exact h12) f k n hf hk hn
          obtain ⟨i1, i2, i3, i4, i5, i6, _, _⟩ := hh
          rw [hNN'.out] at HH i6
          have hz1 : (a : Int) - (f : Int) = ((a - f : Nat) : Int) := by omega
          have hz2 : (a : Int) - (k : Int) = ((a - k : Nat) : Int) := by omega
          have hz3 : ((a - k : Nat) : Int) - ((a - f : Nat) : Int) = ((f - k : Nat) : Int) := by omega
          have hz4 : (N : Int) - 5 = ((N - 5 : Nat) : Int) := by omega
          have hz5 : ((a - k : Nat) : Int) + (n : Int) = ((a - k + n : Nat) : Int) := by omega
          have hz6 : b ≤ a - k := by omega
          have hz7 : a - k ≤ cT := by omega
          have hz8 : ¬ cT = b := by omega
          have hz9 : N - 5 ≤ cT := by omega
          have hza : a - k + n ≤ N := by omega
          have hzc : a < a - k + n := by omega
          have hzb : (0 : Int) ≤ ((N - 5 : Nat) : Int) := by omega
          have hzd : n ≤ 10000000 := by omega
          have hze : f ≤ 10000000 := by omega
          have hzf : a - k ≤ 10000000 := by omega
          have hzg : a - f ≤ 10000000 := by omega
          clear HI HPE hk hn hf i1 i2 i3 i4 i5 i6
          generalize a - k + n = e' at *
          generalize a - k = ak at *
          generalize a - f = af at *
          generalize f - k = fk at *
          generalize N - 5 = N5 at *
          go_wp2_with (first
            | (go_at_call 56; with_reducible refine (HH.out).mono ?_; rintro e w2 ⟨rfl, HH2⟩)
            | (go_at_call 57; with_reducible refine (HH2.out).mono ?_; rintro e w3 ⟨rfl, HH3⟩)
            | (go_at_call 58; with_reducible refine (HH3.out).mono ?_; rintro e w4 ⟨rfl, HH4⟩)
            | (go_at_call 59; with_reducible refine (HH4.out).mono ?_; rintro e w5 ⟨v5, rfl, HI2⟩))
          go_roundg (N + 1 - e')
          all_goals (first | omega | exact ⟨e', e', by omega, by omega, by omega, by
            obtain ⟨ms, nb, fb, nx, h⟩ := HI2.out
            obtain ⟨x, y, z, _⟩ := h.mine.sl.form
            exact ⟨_, _, _, by assumption⟩, rfl, by first | rfl | (congr 1), HI2⟩)
      · have hz0 : ¬ (a : Int) ≤ (N : Int) - 12 := by omega
        have HL := fun ad had => HI.out.last (by rw [hNN'.out]; exact hNl) (by rw [hNN'.out]; exact h12) ad had
        rw [hNN'.out] at HL
        clear HI
        by_cases hcb : cT = b
        · have HL' := HL 0 (.inr hcb.symm)
          obtain rfl : N = b := by omega
          subst hcb
          rw [Nat.sub_self] at HL'
          clear HL
          go_wp2_with (first
            | (go_at_call 59; with_reducible refine (HL'.out).mono ?_; rintro e w5 ⟨a5, c5, ms5, e5, rfl, h51, h52, h53, h54⟩))
          exact HPE.out _ _ ⟨a5, c5, ms5, e5, rfl, h51, ⟨_, h52⟩, h53, h54⟩
        · have HL' := HL b (.inl rfl)
          have hz1 : b ≤ N := by omega
          clear HL
          go_wp2_with (first
            | (go_at_call 59; with_reducible refine (HL'.out).mono ?_; rintro e w5 ⟨a5, c5, ms5, e5, rfl, h51, h52, h53, h54⟩))
          exact HPE.out _ _ ⟨a5, c5, ms5, e5, rfl, h51, ⟨_, h52⟩, h53, h54⟩
end Go.Proofs.Ytdeefemeiggolaa

namespace Go.Proofs.Ytdeefemeiggolaa
open Go.RowKit
set_option linter.unusedVariables false
/-- What Encode's bytes are: b the block of plain bytes behind those ahead. -/
def EncOf (p ahead b : List By) : Prop := ∃ ms e', b = mk ms ((win ahead ++ p).drop e') ∧ EncTo (win ahead ++ p) (win ahead).length (win ahead).length [] (ms, e') ∧ ∃ a, EI (win ahead ++ p) (win ahead).length e' a ms
theorem EncOf.uniq {p ahead b b' : List By} (h : EncOf p ahead b) (h' : EncOf p ahead b') : b = b' := by
  obtain ⟨ms, e, rfl, h2, _⟩ := h
  obtain ⟨ms', e', rfl, h2', _⟩ := h'
  have := h2.uniq h2'
  injection this with h3 h4
  rw [h3, h4]
theorem EncOf.bound {p ahead b : List By} (h : EncOf p ahead b) : b.length ≤ p.length + p.length / 255 + 16 := by
  obtain ⟨ms, e, rfl, _, a, hi⟩ := h
  have := hi.made.1
  have hl : (win ahead ++ p).length - (win ahead).length = p.length := by simp
  rw [hl] at this
  exact this
theorem EncOf.dec {p ahead b : List By} (h : EncOf p ahead b) (hp : p.length ≤ 4194304) : dec b ahead p.length = (p, 0, 0) := by
  obtain ⟨ms, e, rfl, _, a, hi⟩ := h
  have := hi.made.2
  have hl : (win ahead ++ p).length - (win ahead).length = p.length := by simp
  rw [hl, List.take_left, List.drop_left] at this
  rw [dec_win]
  unfold Go.Proofs.Ytdeefemeiggolaa.dec
  rw [if_neg (by omega), Int.toNat_natCast, this]
theorem EncOf.parse {p ahead b : List By} (h : EncOf p ahead b) : ∃ ms q, b = mk ms q ∧ parse b = (ms ++ [⟨q, 0, 0⟩], 0, 0) ∧ ∀ s, ms.getLast? = some s → 5 ≤ q.length ∧ 12 ≤ s.n + q.length := by
  obtain ⟨ms, e, rfl, _, a, hi⟩ := h
  refine ⟨ms, (win ahead ++ p).drop e, rfl, ?_, ?_⟩
  · obtain ⟨s, h1, h2⟩ := parse_mk (mk ms ((win ahead ++ p).drop e)).length ms ((win ahead ++ p).drop e) hi.can [] ⟨[], 0, 0⟩ 0
    unfold Go.Proofs.Ytdeefemeiggolaa.parse
    rw [h1]
    simp only
    rw [h2]
    simp
  · intro s hs
    have := hi.lst s hs
    rw [List.length_drop]
    exact this
/-- What Encode answers. -/
def Encod (p ahead : List By) (w : World) (e : Ending) (w' : World) : Prop :=
  ∃ a' c' b, e = .returned (.tuple #[.slice a' b.length c', .int .i64 0]) ∧ EncOf p ahead b ∧ Mine (fun k => k < w.heap.size) (.slice a' b.length c') b w' ∧ Nw w w'
theorem encode_of (w : World) (vp va : Value) (p ahead : List By) (hp : Old w vp p) (ha : Old w va (win ahead)) (hpl : p.length ≤ 4194304) :
    Calls Try.prog 43 #[vp, va] w fun e w' => ∃ a' c' b, e = .returned (.slice a' b.length c') ∧ EncOf p ahead b ∧ Mine (fun k => k < w.heap.size) (.slice a' b.length c') b w' ∧ Nw w w' := by
  refine (encode_any w vp va p (win ahead) hp ha hpl (by have := win_length ahead; omega)).mono ?_
  rintro e w' ⟨a', c', ms, e', rfl, h1, h2, h3, h4⟩
  exact ⟨a', c', _, rfl, ⟨ms, e', rfl, h1, h2⟩, h3, h4⟩
set_option maxHeartbeats 8000000 in
set_option maxRecDepth 100000 in
theorem Encode_any (w : World) (vp va : Value) (p ahead : List By) (hp : Old w vp p) (ha : Old w va ahead) (hpl : p.length ≤ 4194304) (hal : ahead.length ≤ 200000000000000) :
    Calls Try.prog 25 #[vp, va] w (Encod p ahead w) := by
  obtain ⟨P, hP⟩ : ∃ P, P = Encod p ahead w := ⟨_, rfl⟩
  rw [← hP]
  have HP : Hid (P = Encod p ahead w) := hP
  clear hP
  have key : ∀ x, Old w x (win ahead) → Hid (Calls Try.prog 43 #[vp, x] w fun e w' => ∃ a' l' c', e = .returned (.slice a' l' c') ∧ Hid (P (.returned (.tuple #[.slice a' l' c', .int .i64 0])) w')) := fun x hx => by
    show Calls _ _ _ _ _
    refine (encode_of w vp x p ahead hp hx hpl).mono ?_
    rintro e w' ⟨a', c', b, rfl, h1, h2, h3⟩
    refine ⟨a', _, c', rfl, ?_⟩
    show P _ _
    rw [HP.out]
    exact ⟨a', c', b, rfl, h1, h2, h3⟩
  obtain ⟨pa, pc, rfl, _, _⟩ := hp.form
  have hz0 : ¬ (4194304 : Int) < (p.length : Int) := by omega
  by_cases hbig : 65535 < ahead.length
  · obtain ⟨a, c, rfl, hc, hc2, hao⟩ : ∃ a c, va = .slice a ahead.length c ∧ ahead.length ≤ c ∧ c < 9223372036854775808 ∧ (ahead ≠ [] → ∃ g o, a = some ⟨g, o, none⟩ ∧ g < w.heap.size ∧ Rd g o ahead w) := by
      rcases ha with ⟨a, rfl, rfl⟩ | ⟨g, hg, o, c, rfl, h1, h2, h3⟩
      · simp at hbig
      · exact ⟨_, c, rfl, h1, h2, fun _ => ⟨g, o, rfl, by omega, h3⟩⟩
    obtain ⟨g, o, rfl, hg, hrd⟩ := hao (by intro e; rw [e] at hbig; simp at hbig)
    have hwl := win_length ahead
    have HC := key (.slice (some ⟨g, o + (ahead.length - 65535), none⟩) 65535 (c - (ahead.length - 65535))) (.inr ⟨g, by omega, _, _, by rw [hwl, Nat.min_eq_right (by omega)], by omega, by omega, hrd.drop _⟩)
    clear key HP ha hp hao hrd hwl
    generalize ahead.length = al at *
    generalize p.length = pl' at *
    have hz1 : (al : Int) - 65535 = ((al - 65535 : Nat) : Int) := by omega
    have hz2 : ((al - 65535 : Nat) : Int) ≤ (al : Int) := by omega
    have hz3 : ¬ c = al - 65535 := by omega
    have hz4 : al - (al - 65535) = 65535 := by omega
    have hz5 : max ((al - 65535 : Nat) : Int) 0 = ((al - 65535 : Nat) : Int) := by omega
    generalize al - 65535 = kk at *
    go_enter Try.func25, Try.ntmps25
    go_wp2_with (first
      | (go_at_call 43; with_reducible refine (HC.out).mono ?_; rintro e w1 ⟨a1, l1, c1, rfl, HF⟩))
    exact HF.out
  · have hwe : win ahead = ahead := by unfold win; rw [show ahead.length - 65535 = 0 by omega]; rfl
    have HC := key va (by rw [hwe]; exact ha)
    obtain ⟨a, c, rfl, hc, hc2⟩ := ha.form
    clear key HP ha hp hwe
    generalize ahead.length = al at *
    generalize p.length = pl' at *
    have hz5 : max ((al : Int) - 65535) 0 = 0 := by omega
    go_enter Try.func25, Try.ntmps25
    go_wp2_with (first
      | (go_at_call 43; with_reducible refine (HC.out).mono ?_; rintro e w1 ⟨a1, l1, c1, rfl, HF⟩))
    exact HF.out
set_option maxHeartbeats 4000000 in
theorem Encode_long (w : World) (vp va : Value) (p ahead : List By) (hp : Old w vp p) (hpl : 4194304 < p.length) (hp2 : p.length ≤ 140737488351232) :
    Calls Try.prog 25 #[vp, va] w fun e w' => e = .returned (.tuple #[.slice none 0 0, .int .i64 2]) ∧ w' = w := by
  obtain ⟨pa, pc, rfl, _, _⟩ := hp.form
  have hz0 : (4194304 : Int) < (p.length : Int) := by omega
  clear hp
  generalize p.length = pl' at *
  go_enter Try.func25, Try.ntmps25
  go_wp2
  go_ret2
  exact ⟨rfl, rfl⟩
end Go.Proofs.Ytdeefemeiggolaa
