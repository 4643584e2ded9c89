import Derived.Test.YtpjnbhflnbhnoaaGreatDoorWao
import Derived.Test.YtpjnbhflnbhnoaaGreatDoorWar
namespace Go.Proofs.YtpjnbhflnbhnoaaGreatDoor
open Go.RowKit
set_option linter.unusedVariables false
/-- A member of stored blocks. -/
def Mb.whole (m : Mb) (b : List By) : List By := m.head ++ stE b 1 ++ lows (sumS b) 4 ++ lows b.length 4
theorem Mb.head_ne (m : Mb) : m.head ≠ [] := fun e => by
  have h : m.body = [] := by
    unfold Mb.head at e
    split at e
    · exact (List.append_eq_nil_iff.1 e).1
    · exact e
  have := congrArg List.length h
  unfold Mb.body at this
  simp [Mb.pre_length] at this
theorem Mb.head_le (m : Mb) (he : m.err = 0) : m.head.length ≤ 300002 := by
  have hn1 : ¬ (0 ≤ Lib.indexByte m.nm.data.toList 0 ∨ 0 ≤ Lib.indexByte m.cm.data.toList 0) := fun e => by unfold Mb.err at he; rw [if_pos e] at he; cases he
  have hn2 : ¬ (65535 < m.nm.size ∨ 65535 < m.cm.size ∨ 65535 < m.ex.length) := fun e => by unfold Mb.err at he; rw [if_neg hn1, if_pos e] at he; cases he
  have hbl : m.body.length ≤ 300000 := by
    have t1 := txt_length m.nm
    have t2 := txt_length m.cm
    have t3 : m.ext.length ≤ 2 + m.ex.length := by unfold Mb.ext; split <;> simp [lows_length]
    unfold Mb.body
    simp only [List.length_append, Mb.pre_length]
    omega
  unfold Mb.head
  split
  · rw [List.length_append, lows_length]; omega
  · omega
theorem stE_len (b : List By) (x : Nat) (hbl : b.length ≤ 4194304) : (stE b x).length ≤ 10000000 := by
  have hs : 65535 * stN b.length ≤ b.length := by unfold stN; omega
  have hsn : stN b.length ≤ 64 := by unfold stN; omega
  have := stP_len b (stN b.length) hs
  unfold stE
  simp only [shd, List.length_append, lows_length, List.length_drop, this]
  omega
set_option maxHeartbeats 16000000 in
set_option maxRecDepth 100000 in
theorem zencode_stored (w : World) (m : Mb) (hx : Old w (.slice m.xa m.ex.length m.xc) m.ex) (h1 : m.nm.size ≤ 140737488351232) (h2 : m.cm.size ≤ 140737488351232) (h3 : m.tm < 4294967296) (hT : TabT w) (a : Option Addr) (c : Nat) (b : List By) (hb : Old w (.slice a b.length c) b) (hbl : b.length ≤ 4194304) :
    Calls Tryz.prog 11 #[.slice a b.length c, .agg m.row, .int .i64 0] w fun e w' => ∃ v, e = .returned (.tuple #[v, .int .i64 (m.err : Nat)]) ∧ Nw w w' ∧ (m.err ≠ 0 → v = .slice none 0 0) ∧ (m.err = 0 → ∃ g, w.heap.size ≤ g ∧ Ow g v (m.whole b) w') := by
  obtain ⟨P, hP⟩ : ∃ P : Ending → World → Prop, P = fun e w' => ∃ v, e = .returned (.tuple #[v, .int .i64 (m.err : Nat)]) ∧ Nw w w' ∧ (m.err ≠ 0 → v = .slice none 0 0) ∧ (m.err = 0 → ∃ g, w.heap.size ≤ g ∧ Ow g v (m.whole b) w') := ⟨_, rfl⟩
  rw [← hP]
  obtain ⟨W0, hW0⟩ : ∃ W0, w.alloc (.cells m.row 25) = W0 := ⟨_, rfl⟩
  have row0 : W0.heap[w.heap.size]? = some (.cells m.row 25) := by rw [← hW0]; exact new_heap _ _
  have n0 : Nw w W0 := by rw [← hW0]; exact (Fr.refl _ _).alloc _
  have s0 := n0.size
  have r0 : W0.cell? ⟨w.heap.size, 0, none⟩ = some (.string m.nm) := (row_cell row0 0 _ rfl).1
  have r1 : W0.cell? ⟨w.heap.size, 1, none⟩ = some (.string m.cm) := (row_cell row0 1 _ rfl).1
  have r2 : W0.cell? ⟨w.heap.size, 2, none⟩ = some (.slice m.xa m.ex.length m.xc) := (row_cell row0 2 _ rfl).1
  have r3 : W0.cell? ⟨w.heap.size, 3, none⟩ = some (.int .u32 m.tm) := (row_cell row0 3 _ rfl).1
  have r4 : W0.cell? ⟨w.heap.size, 4, none⟩ = some (.int .u8 m.fl.toNat) := (row_cell row0 4 _ rfl).1
  have r5 : W0.cell? ⟨w.heap.size, 5, none⟩ = some (.int .u8 m.sy.toNat) := (row_cell row0 5 _ rfl).1
  have r6 : W0.cell? ⟨w.heap.size, 6, none⟩ = some (.bool m.tx) := (row_cell row0 6 _ rfl).1
  have r7 : W0.cell? ⟨w.heap.size, 7, none⟩ = some (.bool m.sm) := (row_cell row0 7 _ rfl).1
  have HMR : Hid (m.row = #[.string m.nm, .string m.cm, .slice m.xa m.ex.length m.xc, .int .u32 m.tm, .int .u8 m.fl.toNat, .int .u8 m.sy.toNat, .bool m.tx, .bool m.sm]) := rfl
  by_cases he : m.err = 0
  · have hsb := sumS_lt b
    have hhl := m.head_le he
    have hstl := stE_len b 1 hbl
    have HH : Hid (Calls Tryz.prog 10 #[.agg m.row] W0 fun e w1 => ∃ a1 n1 c1, e = .returned (.tuple #[.slice a1 n1 c1, .int .i64 0]) ∧ Hid (Calls Tryz.prog 17 #[.slice a b.length c, .int .i64 0] w1 fun e w2 => ∃ a2 n2 c2, e = .returned (.tuple #[.slice a2 n2 c2, .int .i64 0]) ∧ ∃ a3 n3 c3 W3, Hid (∀ ty, (Builtin.append_ #[22, 22] ty #[.slice a1 n1 c1, .slice a2 n2 c2]).run Tryz.prog w2 = .ok (.slice a3 n3 c3) W3) ∧ Hid (Calls Tryz.prog 12 #[.slice a b.length c] W3 fun e w4 => e = .returned (.int .u32 (sumS b : Nat)) ∧ W3 = w4 ∧ Hid (Calls Tryz.prog 31 #[.slice a3 n3 c3, .int .u64 (sumS b : Nat), .int .i64 4] W3 fun e w5 => ∃ a5 n5 c5, e = .returned (.slice a5 n5 c5) ∧ Hid (Calls Tryz.prog 31 #[.slice a5 n5 c5, .int .u64 b.length, .int .i64 4] w5 fun e w6 => ∃ a6 n6 c6, e = .returned (.slice a6 n6 c6) ∧ Hid (P (.returned (.tuple #[.slice a6 n6 c6, .int .i64 0])) w6)))))) := by
      show Calls _ _ _ _ _
      refine (zhead_any W0 m (Sl.later hx n0) h1 h2 h3 (hT.nw n0)).mono ?_
      rintro e w1 ⟨v, rfl, hN1, _, hok⟩
      obtain ⟨g1, hg1, hO1⟩ := hok he
      obtain ⟨xs, rfl, _⟩ := id hO1
      refine ⟨_, _, _, by rw [he]; rfl, ?_⟩
      show Calls _ _ _ _ _
      refine (dstored_any w1 a c b (Sl.later hb (n0.trans hN1)) hbl).mono ?_
      rintro e w2 ⟨r, rfl, hM2, hN2⟩
      obtain ⟨a2, c2, rfl, _, _⟩ := hM2.sl.form
      refine ⟨a2, _, c2, rfl, ?_⟩
      have H2 : Hd W0 (.slice (some ⟨g1, 0, none⟩) m.head.length xs.length) m.head w2 := ⟨g1, hg1, hO1.nw hN2, hN1.trans hN2⟩
      obtain ⟨a3, n3, c3, W3, hap3, H3⟩ := hd_bytes H2 (.slice a2 (stE b 1).length c2) (stE b 1) (hM2.old.mono (fun _ h => h.elim)) (by omega)
      have n3w := H3.choose_spec.2.2
      refine ⟨a3, n3, c3, W3, hap3, ?_⟩
      show Calls _ _ _ _ _
      refine (zsum_any _ W3 _ b (Sl.later hb (n0.trans n3w)) ((hT.nw n0).nw n3w) (by omega)).mono ?_
      rintro e w4 ⟨rfl, rfl⟩
      refine ⟨rfl, rfl, ?_⟩
      show Calls _ _ _ _ _
      have hne : m.head ++ stE b 1 ≠ [] := fun e => m.head_ne (List.append_eq_nil_iff.1 e).1
      refine (hd_put H3 (sumS b) 4 (by omega) (by decide) (by rw [List.length_append]; omega) hne).mono ?_
      rintro e w5 ⟨a5, n5, c5, rfl, H5⟩
      refine ⟨a5, n5, c5, rfl, ?_⟩
      show Calls _ _ _ _ _
      refine (hd_put H5 b.length 4 (by omega) (by decide) (by simp only [List.length_append, lows_length]; omega) (fun e => hne (List.append_eq_nil_iff.1 e).1)).mono ?_
      rintro e w6 ⟨a6, n6, c6, rfl, H6⟩
      refine ⟨a6, n6, c6, rfl, ?_⟩
      show P _ _
      rw [hP]
      obtain ⟨g6, q1, q2, q3⟩ := H6
      exact ⟨_, by rw [he]; rfl, n0.trans q3, fun e => absurd he e, fun _ => ⟨g6, by omega, q2⟩⟩
    have u1 : IntKind.u64.wrap ((sumS b : Nat) : Int) = ((sumS b : Nat) : Int) := by rw [IntKind.wrap_u64]; omega
    have u2 : IntKind.u64.wrap (b.length : Int) = (b.length : Int) := by rw [IntKind.wrap_u64]; omega
    rw [HMR.out] at hW0 HH ⊢
    clear hP hT hx row0 n0 he HMR hb hsb hhl hstl s0
    generalize sumS b = sb at *
    generalize b.length = N at *
    generalize m.ex.length = X at *
    generalize m.fl.toNat = F at *
    generalize m.sy.toNat = S at *
    go_enter Tryz.func11, Tryz.ntmps11
    go_wp2_with (first
      | (go_at_call 10; with_reducible refine HH.out.mono ?_; rintro e w1 ⟨a1, n1, c1, rfl, H1⟩)
      | (go_at_call 17; with_reducible refine H1.out.mono ?_; rintro e w2 ⟨a2, n2, c2, rfl, a3, n3, c3, W3, HAP, H3⟩)
      | (at_builtin; refine Lib.wpList_append_run _ rfl _ _ 22 22 rfl (.slice a1 n1 c1) (.slice a2 n2 c2) (by simp [Act.eval]) (by simp [Act.eval]) _ _ (HAP.out _) ?_)
      | (go_at_call 12; with_reducible refine H3.out.mono ?_; rintro e w4 ⟨rfl, rfl, H4⟩)
      | (go_at_call 31; with_reducible refine H4.out.mono ?_; rintro e w5 ⟨a5, n5, c5, rfl, H5⟩)
      | (go_at_call 31; with_reducible refine H5.out.mono ?_; rintro e w6 ⟨a6, n6, c6, rfl, H6⟩))
    exact H6.out
  · have HH : Hid (Calls Tryz.prog 10 #[.agg m.row] W0 fun e w1 => e = .returned (.tuple #[.slice none 0 0, .int .i64 (m.err : Nat)]) ∧ Hid (P (.returned (.tuple #[.slice none 0 0, .int .i64 (m.err : Nat)])) w1)) := by
      show Calls _ _ _ _ _
      refine (zhead_any W0 m (Sl.later hx n0) h1 h2 h3 (hT.nw n0)).mono ?_
      rintro e w1 ⟨v, rfl, hN1, hno, _⟩
      obtain rfl := hno he
      refine ⟨rfl, ?_⟩
      show P _ _
      rw [hP]
      exact ⟨_, rfl, n0.trans hN1, fun _ => rfl, fun e => absurd e he⟩
    have hz : ((m.err : Int) != 0) = true := by simp only [bne_iff_ne, ne_eq]; omega
    rw [HMR.out] at hW0 HH ⊢
    clear hP hT hx row0 n0 he HMR hb s0
    generalize m.err = er at *
    generalize b.length = N at *
    generalize m.ex.length = X at *
    generalize m.fl.toNat = F at *
    generalize m.sy.toNat = S at *
    go_enter Tryz.func11, Tryz.ntmps11
    go_wp2_with (first
      | (go_at_call 10; with_reducible refine HH.out.mono ?_; rintro e w1 ⟨rfl, H1⟩))
    exact H1.out
end Go.Proofs.YtpjnbhflnbhnoaaGreatDoor
