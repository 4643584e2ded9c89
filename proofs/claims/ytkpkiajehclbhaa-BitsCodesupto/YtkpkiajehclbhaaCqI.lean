import Derived.Test.YtkpkiajehclbhaaCqH
namespace Go.Proofs.Ytkpkiajehclbhaa
open Go.RowKit
set_option linter.unusedVariables false
/-- The code of two words of one bit. -/
theorem one_any (w : World) : Calls Try.prog 32 #[.slice (some ⟨w.heap.size, 0, none⟩) 2 2] (w.alloc (.cells #[.int .i64 1, .int .i64 1] 3)) fun e w1 => ∃ cb, e = .returned (.tuple #[.pointer (some ⟨cb, 0, none⟩), .int .i64 0]) ∧ Hid (Nw w w1) ∧ Hid (Calls Try.prog 34 #[.pointer (some ⟨cb, 0, none⟩)] w1 fun e w2 => e = .returned (.bool true) ∧ Hid (Nw w w2)) := by
  refine (newCode_lit w [1, 1] cod_11 _ (by simp [flatR, RI, toI]) 2 rfl).mono ?_
  rintro e w1 ⟨cb, gw, gs, ws, ss, rfl, hc, h2⟩
  refine ⟨cb, rfl, h2, (whole_any hc cod_11).mono ?_⟩
  rintro e w2 ⟨rfl, h3⟩
  exact ⟨by rw [show decide (room [1, 1] = 32768) = true by decide], h2.trans h3⟩
set_option maxHeartbeats 16000000 in
set_option maxRecDepth 100000 in
theorem bc_no (w : World) (v0 : Value) (zs : List Int) (h0 : SlR RI (fun _ => False) v0 zs w) (hz : zs.length ≤ 17592186043904) (v1 v2 : Value) (hn : ¬ IsCode zs) : Calls Try.prog 5 #[v0, v1, v2] w fun e w' => e = .returned (.bool true) ∧ Nw w w' := by
  obtain ⟨P, hP⟩ : ∃ P : Ending → World → Prop, P = fun e w' => e = .returned (.bool true) ∧ Nw w w' := ⟨_, rfl⟩
  rw [← hP]
  obtain ⟨g, c, W, gm, cm, W', HAP1, HAP2, hO, hN, hg⟩ := ints_two w v0 zs h0 hz
  obtain ⟨a0, c0, rfl, hc0, hc02, _⟩ := h0.form
  have hO1 := hO.cutI (by simp)
  have hcm : zs.length + 2 ≤ cm ∧ cm < 9223372036854775808 := by
    obtain ⟨c', e, k1, k2⟩ := hO.form
    rw [List.length_append] at e k1
    cases e
    exact ⟨k1, k2⟩
  obtain ⟨hcm1, hcm2⟩ := hcm
  have HC : Hid (Calls Try.prog 32 #[.slice (some ⟨gm, 0, none⟩) zs.length cm] W' fun e w1 => e = .returned (.tuple #[.pointer none, .int .i64 51]) ∧ Hid (Calls Try.prog 33 #[.slice a0 zs.length c0] w1 fun e w2 => ∃ q : Bool, e = .returned (.tuple #[.bool false, .bool q]) ∧ (w2.cell? ⟨gm, zs.length, none⟩ = some (.int .i64 77) ∧ w2.cell? ⟨gm, zs.length + 1, none⟩ = some (.int .i64 78)) ∧ Hid (OvI zs gm 0 w2 w2) ∧ Hid (Nw w w2))) := by
    refine (newCode_no W' _ zs hO1.low hz hn).mono ?_
    rintro e w1 ⟨rfl, h1⟩
    refine ⟨rfl, (scode_any w1 _ zs (h0.nw (hN.trans h1)) hz).mono ?_⟩
    rintro e w2 ⟨⟨b, q, rfl, hb, _⟩, rfl⟩
    have hbf : b = false := by
      cases b with
      | true => exact absurd (hb.1 rfl) hn
      | false => rfl
    subst hbf
    have hO2 := hO.nw h1
    refine ⟨q, rfl, ⟨?_, ?_⟩, OvI.start hO2, hN.trans h1⟩
    · have a := (hO2.cell riOk zs.length 0 77 _ (by simp) rfl).1
      rw [show RI.k = 1 from rfl, Nat.mul_one, Nat.add_zero] at a
      exact a
    · have a := (hO2.cell riOk (zs.length + 1) 0 78 _ (by simp) rfl).1
      rw [show RI.k = 1 from rfl, Nat.mul_one, Nat.add_zero] at a
      exact a
  have HF : Hid (∀ W, Nw w W → P (.returned (.bool true)) W) := fun W hW => by rw [hP]; exact ⟨rfl, hW⟩
  have HZ : Hid (SlR RI (fun _ => False) (.slice a0 zs.length c0) zs w) := h0
  have hnn : ∀ (b : Nat) w, (binOp BinOp.eql 55 (.pointer (some ⟨b, 0, none⟩)) (.pointer none)).run Try.prog w = .ok (.bool false) w := fun _ _ => by kernel_rfl
  have hnp : ∀ w, (binOp BinOp.neq 55 (.pointer none) (.pointer none)).run Try.prog w = .ok (.bool false) w := fun _ => by kernel_rfl
  have hnq : ∀ w, (binOp BinOp.eql 55 (.pointer none) (.pointer none)).run Try.prog w = .ok (.bool true) w := fun _ => by kernel_rfl
  have HG : Hid (w.heap.size ≤ gm) := hg
  clear hP hO h0 hO1 hN hg
  generalize hL : zs.length = L at *
  have HL : Hid (zs.length = L) := hL
  clear hL
  go_enter Try.func5, Try.ntmps5
  go_wp2_with (first
    | (at_builtin; refine Lib.wpList_append_run _ rfl _ _ 54 54 rfl (.slice (some ⟨w.heap.size, 0, none⟩) 0 0) (.slice a0 L c0) (by simp [Act.eval]) (by simp [Act.eval]) _ _ (HAP1.out _) ?_)
    | (at_builtin; refine Lib.wpList_append_run _ rfl _ _ 54 54 rfl (.slice (some ⟨g, 0, none⟩) L c) (.slice (some ⟨_, 0, none⟩) 2 2) (by simp [Act.eval]) (by simp [Act.eval]) _ _ (HAP2.out _) ?_)
    | (go_at_call 32; (with_reducible refine HC.out.mono ?_); rintro e w1 ⟨rfl, H1⟩)
    | (go_at_call 33; (with_reducible refine H1.out.mono ?_); rintro e w2 ⟨q, rfl, ⟨x1, x2⟩, HO0, HN2⟩))
  clear HAP1 HAP2 HC
  go_loopg [12] L (fun kx i wr => ∃ (I : Nat), I ≤ L ∧ L - I ≤ kx ∧ i = .int .i64 I ∧ Hid (OvI zs gm I w2 wr))
  case atStart => exact ⟨0, by omega, by omega, rfl, HO0⟩
  case round =>
    obtain ⟨I, hI, hkx, rfl, HO⟩ := hrel
    clear HO0
    have hNr : Nw w wr := by
      obtain ⟨xs, _, _, h3⟩ := HO.out
      exact Fr.then HN2.out h3 (fun k hk => .inr (by rw [hk]; exact HG.out))
    by_cases hlt : I < L
    · have hlt' : I < zs.length := by rw [HL.out]; exact hlt
      have hxx : zs[I]? = some zs[I] := List.getElem?_eq_getElem hlt'
      generalize zs[I] = x at hxx
      obtain ⟨gl, ol, rfl, _, hcell⟩ := ri_at (HZ.out.nw hNr) I x hxx
      obtain ⟨y1, y2⟩ := HO.out.at x hxx
      have hz1 : (I : Int) < (L : Int) := by omega
      have HN : Hid (∀ n, OvI zs gm (I + 1) w2 ((wr.drewN n).setCell ⟨gm, I, none⟩ (.int .i64 3))) := fun n => HO.out.step _ ((Fr.refl _ _).drewN n)
      have HFZ : Hid (∀ n, (wr.drewN n).frozen? ⟨gm, I, none⟩ = false ∧ (wr.drewN n).cell? ⟨gm, I, none⟩ = some (.int .i64 x)) := fun n => ⟨y2, y1⟩
      clear HO hNr HZ HF hxx x1 x2 hnn hnp hnq HN2
      go_wp2_with fail
      go_quiet (fail)
      obtain ⟨y3, y4⟩ := HFZ.out 9
      go_wp2_with fail
      go_roundg (L - (I + 1))
      case measure => omega
      case rel => exact ⟨I + 1, by omega, by omega, by first | rfl | (congr 1), HN.out _⟩
    · obtain rfl : I = L := by omega
      have hz1 : ¬ (I : Int) < (I : Int) := by omega
      have HNr : Hid (Nw w wr) := hNr
      have HOne := one_any wr
      have HOne : Hid (Calls Try.prog 32 #[.slice (some ⟨wr.heap.size, 0, none⟩) 2 2] (wr.alloc (.cells #[.int .i64 1, .int .i64 1] 3)) fun e w1 => ∃ cb, e = .returned (.tuple #[.pointer (some ⟨cb, 0, none⟩), .int .i64 0]) ∧ Hid (Nw wr w1) ∧ Hid (Calls Try.prog 34 #[.pointer (some ⟨cb, 0, none⟩)] w1 fun e w2 => e = .returned (.bool true) ∧ Hid (Nw wr w2))) := HOne
      clear HO hNr HZ x1 x2 hnp HN2
      go_wp2_with (first
        | (go_at_call 32; (with_reducible refine HOne.out.mono ?_); rintro e w3 ⟨cb, rfl, H3, H4⟩)
        | (go_at_call 34; (with_reducible refine H4.out.mono ?_); rintro e w4 ⟨rfl, H5⟩))
      exact HF.out _ (HNr.out.trans H5.out)
end Go.Proofs.Ytkpkiajehclbhaa
