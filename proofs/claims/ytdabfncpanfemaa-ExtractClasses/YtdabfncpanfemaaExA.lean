import Derived.Test.YtdabfncpanfemaaVfM
namespace Go.Proofs.Ytdabfncpanfemaa
open Go.RowKit
set_option linter.unusedVariables false
set_option maxRecDepth 100000
/-! ### The closed list -/
def Rint : Value → Option (DataW Unit × List MemPlace)
  | .int .i64 a => some (.lit (.int .i64 a), [])
  | _ => none
theorem Rint_inv {u : Value} {g : Int} {ps : List MemPlace} (h : Rint u = some (.lit (.int .i64 g), ps)) : u = .int .i64 g := by
  unfold Rint at h
  split at h
  · simp only [Option.some.injEq, Prod.mk.injEq] at h
    obtain ⟨h, _⟩ := h
    injection h with h
    injection h with _ h
    rw [h]
  · cases h
def MQ : MT Int Int := { kt := 22, et := 22, mt := 26, kv := fun k => .int .i64 k, kl := fun k => .int .i64 k, kok := I64, ev := fun g => .int .i64 g, ed := fun g => .lit (.int .i64 g), eok := fun _ => True, zv := .int .i64 0, zd := .lit (.int .i64 0), R := Rint }
theorem mqOk : MQ.Ok where
  keyed := Maps.int_keyed Try.underlying22
  und := Try.underlying26
  keq := fun k hk => Maps.keyOf_int_mk Try.underlying22 (i64wf hk.1 hk.2)
  kinj := fun k k' _ _ h => by simp only [MQ] at h; injection h
  eR := fun v _ => rfl
  einv := fun u v ps _ h => Rint_inv h
  zR := rfl
  zinv := fun u ps h => Rint_inv h
  zero := fun w => by kernel_rfl
/-- A list of pairs, read from its head. -/
def lkQ : List (Int × Int) → Int → Option Int
  | [], _ => none
  | x :: r, k => if k = x.1 then some x.2 else lkQ r k
/-- How a map that reads as a list takes one more pair. -/
theorem mq_store {b : Nat} {l : List (Int × Int)} {n : Nat} {w0 w : World} (hb : b = w0.heap.size) (h : Mp MQ b (lkQ l) n w) (f : Nw w0 w) (k v : Int) (hk : I64 k) (hn : n ≤ 1000) : ∃ w' n', (Instr.mapUpdate 26 (.map (some b)) (.int .i64 k) (.int .i64 v)).run Try.prog w = .ok () w' ∧ Mp MQ b (lkQ ((k, v) :: l)) n' w' ∧ Nw w0 w' ∧ n' ≤ n + 1 := by
  obtain ⟨w', r, m, f'⟩ := h.store mqOk k hk v trivial (by omega)
  refine ⟨w', _, r, m _ (fun x _ => rfl), Fr.then f f' (fun i hi => .inr (by omega)), ?_⟩
  split <;> omega
def clsL : List (Int × Int) := [(105, 205), (193, 204), (182, 203), (181, 203), (180, 203), (191, 202), (106, 202), (104, 202), (114, 202), (112, 202), (111, 202), (110, 202), (103, 202), (107, 201), (190, 201), (95, 201), (94, 201), (93, 201), (92, 201), (91, 201), (90, 201), (192, 200), (3, 200), (161, 200), (160, 200), (142, 200), (141, 200), (140, 200), (132, 200), (131, 200), (130, 200), (121, 200), (120, 200), (2, 200), (4, 200), (0, 0)]
/-- The class of an error. -/
def clsF (z : Int) : Int := (lkQ clsL z).getD 206
set_option maxHeartbeats 4000000 in
theorem classes_any (w : World) : Calls Try.prog 6 #[] w fun e w' => e = .returned (.map (some w.heap.size)) ∧ Nw w w' ∧ ∃ n, Mp MQ w.heap.size (lkQ clsL) n w' := by
  obtain ⟨P, hP⟩ : ∃ P : Ending → World → Prop, P = fun e w' => e = .returned (.map (some w.heap.size)) ∧ Nw w w' ∧ ∃ n, Mp MQ w.heap.size (lkQ clsL) n w' := ⟨_, rfl⟩
  rw [← hP]
  obtain ⟨W0, hW0⟩ : ∃ W0, W0 = w.alloc (.map #[] 0) := ⟨_, rfl⟩
  have M0 : Mp MQ w.heap.size (lkQ []) 0 W0 := by rw [hW0]; exact Mp.made w
  have n0 : Nw w W0 := by rw [hW0]; exact (Fr.refl _ _).alloc _
  have b0 : (0 : Nat) ≤ 0 := Nat.le_refl _
  obtain ⟨W1, c1, r1, M1, n1, b1⟩ := mq_store rfl M0 n0 0 0 (by unfold I64; omega) (by omega)
  obtain ⟨W2, c2, r2, M2, n2, b2⟩ := mq_store rfl M1 n1 4 200 (by unfold I64; omega) (by omega)
  obtain ⟨W3, c3, r3, M3, n3, b3⟩ := mq_store rfl M2 n2 2 200 (by unfold I64; omega) (by omega)
  obtain ⟨W4, c4, r4, M4, n4, b4⟩ := mq_store rfl M3 n3 120 200 (by unfold I64; omega) (by omega)
  obtain ⟨W5, c5, r5, M5, n5, b5⟩ := mq_store rfl M4 n4 121 200 (by unfold I64; omega) (by omega)
  obtain ⟨W6, c6, r6, M6, n6, b6⟩ := mq_store rfl M5 n5 130 200 (by unfold I64; omega) (by omega)
  obtain ⟨W7, c7, r7, M7, n7, b7⟩ := mq_store rfl M6 n6 131 200 (by unfold I64; omega) (by omega)
  obtain ⟨W8, c8, r8, M8, n8, b8⟩ := mq_store rfl M7 n7 132 200 (by unfold I64; omega) (by omega)
  obtain ⟨W9, c9, r9, M9, n9, b9⟩ := mq_store rfl M8 n8 140 200 (by unfold I64; omega) (by omega)
  obtain ⟨W10, c10, r10, M10, n10, b10⟩ := mq_store rfl M9 n9 141 200 (by unfold I64; omega) (by omega)
  obtain ⟨W11, c11, r11, M11, n11, b11⟩ := mq_store rfl M10 n10 142 200 (by unfold I64; omega) (by omega)
  obtain ⟨W12, c12, r12, M12, n12, b12⟩ := mq_store rfl M11 n11 160 200 (by unfold I64; omega) (by omega)
  obtain ⟨W13, c13, r13, M13, n13, b13⟩ := mq_store rfl M12 n12 161 200 (by unfold I64; omega) (by omega)
  obtain ⟨W14, c14, r14, M14, n14, b14⟩ := mq_store rfl M13 n13 3 200 (by unfold I64; omega) (by omega)
  obtain ⟨W15, c15, r15, M15, n15, b15⟩ := mq_store rfl M14 n14 192 200 (by unfold I64; omega) (by omega)
  obtain ⟨W16, c16, r16, M16, n16, b16⟩ := mq_store rfl M15 n15 90 201 (by unfold I64; omega) (by omega)
  obtain ⟨W17, c17, r17, M17, n17, b17⟩ := mq_store rfl M16 n16 91 201 (by unfold I64; omega) (by omega)
  obtain ⟨W18, c18, r18, M18, n18, b18⟩ := mq_store rfl M17 n17 92 201 (by unfold I64; omega) (by omega)
  obtain ⟨W19, c19, r19, M19, n19, b19⟩ := mq_store rfl M18 n18 93 201 (by unfold I64; omega) (by omega)
  obtain ⟨W20, c20, r20, M20, n20, b20⟩ := mq_store rfl M19 n19 94 201 (by unfold I64; omega) (by omega)
  obtain ⟨W21, c21, r21, M21, n21, b21⟩ := mq_store rfl M20 n20 95 201 (by unfold I64; omega) (by omega)
  obtain ⟨W22, c22, r22, M22, n22, b22⟩ := mq_store rfl M21 n21 190 201 (by unfold I64; omega) (by omega)
  obtain ⟨W23, c23, r23, M23, n23, b23⟩ := mq_store rfl M22 n22 107 201 (by unfold I64; omega) (by omega)
  obtain ⟨W24, c24, r24, M24, n24, b24⟩ := mq_store rfl M23 n23 103 202 (by unfold I64; omega) (by omega)
  obtain ⟨W25, c25, r25, M25, n25, b25⟩ := mq_store rfl M24 n24 110 202 (by unfold I64; omega) (by omega)
  obtain ⟨W26, c26, r26, M26, n26, b26⟩ := mq_store rfl M25 n25 111 202 (by unfold I64; omega) (by omega)
  obtain ⟨W27, c27, r27, M27, n27, b27⟩ := mq_store rfl M26 n26 112 202 (by unfold I64; omega) (by omega)
  obtain ⟨W28, c28, r28, M28, n28, b28⟩ := mq_store rfl M27 n27 114 202 (by unfold I64; omega) (by omega)
  obtain ⟨W29, c29, r29, M29, n29, b29⟩ := mq_store rfl M28 n28 104 202 (by unfold I64; omega) (by omega)
  obtain ⟨W30, c30, r30, M30, n30, b30⟩ := mq_store rfl M29 n29 106 202 (by unfold I64; omega) (by omega)
  obtain ⟨W31, c31, r31, M31, n31, b31⟩ := mq_store rfl M30 n30 191 202 (by unfold I64; omega) (by omega)
  obtain ⟨W32, c32, r32, M32, n32, b32⟩ := mq_store rfl M31 n31 180 203 (by unfold I64; omega) (by omega)
  obtain ⟨W33, c33, r33, M33, n33, b33⟩ := mq_store rfl M32 n32 181 203 (by unfold I64; omega) (by omega)
  obtain ⟨W34, c34, r34, M34, n34, b34⟩ := mq_store rfl M33 n33 182 203 (by unfold I64; omega) (by omega)
  obtain ⟨W35, c35, r35, M35, n35, b35⟩ := mq_store rfl M34 n34 193 204 (by unfold I64; omega) (by omega)
  obtain ⟨W36, c36, r36, M36, n36, b36⟩ := mq_store rfl M35 n35 105 205 (by unfold I64; omega) (by omega)
  have HF : Hid (P (.returned (.map (some w.heap.size))) W36) := by
    rw [hP]
    exact ⟨rfl, n36, _, M36⟩
  have q0 : (Instr.makeMap 26 none).run Try.prog w = .ok (.map (some w.heap.size)) W0 := by rw [hW0]; simp [Instr.makeMap]
  clear hP hW0 M0 M1 M2 M3 M4 M5 M6 M7 M8 M9 M10 M11 M12 M13 M14 M15 M16 M17 M18 M19 M20 M21 M22 M23 M24 M25 M26 M27 M28 M29 M30 M31 M32 M33 M34 M35 M36 n0 n1 n2 n3 n4 n5 n6 n7 n8 n9 n10 n11 n12 n13 n14 n15 n16 n17 n18 n19 n20 n21 n22 n23 n24 n25 n26 n27 n28 n29 n30 n31 n32 n33 n34 n35 n36 b0 b1 b2 b3 b4 b5 b6 b7 b8 b9 b10 b11 b12 b13 b14 b15 b16 b17 b18 b19 b20 b21 b22 b23 b24 b25 b26 b27 b28 b29 b30 b31 b32 b33 b34 b35 b36
  go_enter Try.func6, Try.ntmps6
  go_wp2_with fail
  exact HF.out
set_option maxHeartbeats 4000000 in
theorem class_any (z : Int) (hz : I64 z) (w : World) : Calls Try.prog 4 #[.int .i64 z] w fun e w' => e = .returned (.int .i64 (clsF z)) ∧ Nw w w' := by
  obtain ⟨P, hP⟩ : ∃ P : Ending → World → Prop, P = fun e w' => e = .returned (.int .i64 (clsF z)) ∧ Nw w w' := ⟨_, rfl⟩
  rw [← hP]
  have HC : Hid (∀ V, Nw w V → Calls Try.prog 6 #[] V fun e w' => e = .returned (.map (some V.heap.size)) ∧ Hid (Nw w w') ∧ (Instr.lookup 26 (.map (some V.heap.size)) (.int .i64 z) true).run Try.prog w' = .ok (.tuple #[.int .i64 ((lkQ clsL z).getD 0), .bool (lkQ clsL z).isSome]) w') := fun V hV => (classes_any V).mono fun e w' h => by
    obtain ⟨h1, h2, n, h3⟩ := h
    refine ⟨h1, hV.trans h2, ?_⟩
    have := h3.look mqOk z hz
    have e1 : (lkQ clsL z).elim MQ.zv MQ.ev = .int .i64 ((lkQ clsL z).getD 0) := by cases lkQ clsL z <;> rfl
    rw [e1] at this
    exact this
  have HF : Hid (∀ V c, Nw w V → (lkQ clsL z).isSome = c → (c = true → P (.returned (.int .i64 ((lkQ clsL z).getD 0))) V) ∧ (c = false → P (.returned (.int .i64 206)) V)) := fun V c hV hc => by
    subst hc
    rw [hP]
    refine ⟨fun h => ⟨?_, hV⟩, fun h => ⟨?_, hV⟩⟩
    · unfold clsF; cases hl : lkQ clsL z with
      | none => rw [hl] at h; cases h
      | some q => rfl
    · unfold clsF; cases hl : lkQ clsL z with
      | none => rfl
      | some q => rw [hl] at h; cases h
  clear hP
  generalize hg : (lkQ clsL z).getD 0 = g at *
  generalize hs : (lkQ clsL z).isSome = s at *
  clear hg hs
  go_enter Try.func4, Try.ntmps4
  cases s
  · go_wp2_with (first
      | (go_at_call 6; with_reducible refine (HC.out _ (Fr.refl _ _)).mono ?_; rintro e w1 ⟨rfl, HN, HL⟩)
      | fail)
    exact (HF.out _ _ HN.out rfl).2 rfl
  · go_wp2_with (first
      | (go_at_call 6; with_reducible refine (HC.out _ (Fr.refl _ _)).mono ?_; rintro e w1 ⟨rfl, HN, HL⟩)
      | fail)
    exact (HF.out _ _ HN.out rfl).1 rfl
end Go.Proofs.Ytdabfncpanfemaa
