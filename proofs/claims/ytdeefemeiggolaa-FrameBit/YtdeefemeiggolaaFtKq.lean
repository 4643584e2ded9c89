import Derived.Test.YtdeefemeiggolaaFtLq
namespace Go.Proofs.Ytdeefemeiggolaa
open Go.RowKit
set_option linter.unusedVariables false
/-! ### FrameBit's walk -/
set_option maxHeartbeats 8000000 in
set_option maxRecDepth 100000 in
theorem bt_main (w : World) (a : Option Addr) (L c : Nat) (plain : List By) (hL : plain.length = L) (hp : Old w (.slice a L c) plain) (hpl : L ≤ 140737488351232) (k bit : Nat) (hbw : bit < 9223372036854775808) (b1 b2 b3 b4 : Bool) (hk4 : 4 ≤ k) (hk7 : k ≤ 7) (hLl : L ≤ 4194304) :
    Calls Try.prog 7 #[.slice a L c, .agg #[.int .i64 k, .bool b1, .bool b2, .bool b3, .bool b4], .int .i64 bit] w fun e w' => e = .returned (.bool true) ∧ Nw w w' := by
  obtain ⟨P, hP⟩ : ∃ P : Ending → World → Prop, P = fun e w' => e = .returned (.bool true) ∧ Nw w w' := ⟨_, rfl⟩
  rw [← hP]
  obtain ⟨W0, hW0⟩ : ∃ W0, w.alloc (.cells #[.int .i64 k, .bool b1, .bool b2, .bool b3, .bool b4] 24) = W0 := ⟨_, rfl⟩
  have hrow : W0.heap[w.heap.size]? = some (.cells #[.int .i64 k, .bool b1, .bool b2, .bool b3, .bool b4] 24) := by
    rw [← hW0]
    show (w.heap.push _)[w.heap.size]? = _
    rw [Array.getElem?_push_size]
  have hN0 : Nw w W0 := by rw [← hW0]; exact (Fr.refl _ _).alloc _
  have KEY : ∀ V, Nw W0 V → ShC w.heap.size (k : Int) b1 b2 b3 b4 V := fun V hV => ⟨hV.cell (row_cell hrow 0 _ rfl).1, hV.cell (row_cell hrow 1 _ rfl).1, hV.cell (row_cell hrow 2 _ rfl).1, hV.cell (row_cell hrow 3 _ rfl).1, hV.cell (row_cell hrow 4 _ rfl).1⟩
  have HL : Hid (Calls Try.prog 21 #[] W0 fun e w1 => e = .returned (.bool true) ∧ ∃ g1 c9 W1, Hid (∀ ty, (Builtin.append_ #[22, 22] ty #[.slice (some ⟨w1.heap.size, 0, none⟩) 0 0, .slice a L c]).run Try.prog (w1.drew.alloc (.cells #[] 5)) = .ok (.slice (some ⟨g1, 0, none⟩) L c9) W1) ∧ ShC w.heap.size (k : Int) b1 b2 b3 b4 w1 ∧ ShC w.heap.size (k : Int) b1 b2 b3 b4 w1.drew ∧ ShC w.heap.size (k : Int) b1 b2 b3 b4 (w1.drew.alloc (.cells #[] 5)) ∧ ShC w.heap.size (k : Int) b1 b2 b3 b4 W1 ∧ Hid (Calls Try.prog 10 #[.slice (some ⟨g1, 0, none⟩) L c9, .agg #[.int .i64 k, .bool b1, .bool b2, .bool b3, .bool b4]] W1 fun e w2 => ∃ ga l2 k2 bl, e = .returned (.tuple #[.slice (some ⟨ga, 0, none⟩) l2 k2, .int .i64 0]) ∧ 0 < l2 ∧ l2 ≤ 100000000 ∧ ShC w.heap.size (k : Int) b1 b2 b3 b4 w2 ∧ Hid (l2 = (frameB ⟨k, b1, b2, b3, b4⟩ plain bl).length ∧ EncB ⟨k, b1, b2, b3, b4⟩ plain 0 bl ∧ Ow ga (.slice (some ⟨ga, 0, none⟩) l2 k2) (frameB ⟨k, b1, b2, b3, b4⟩ plain bl) w2 ∧ Nw w w2 ∧ w.heap.size < ga ∧ (∀ V, Fr (fun k => k = ga) w2 V → ShC w.heap.size (k : Int) b1 b2 b3 b4 V)))) := by
    show Calls _ _ _ _ _
    refine (lives_any W0).mono ?_
    rintro e w1 ⟨rfl, hN1⟩
    refine ⟨rfl, ?_⟩
    obtain ⟨g1, c9, W1, hap, hO1, _, hNa⟩ := copyB w1.drew (.slice a L c) plain (Sl.later hp ((hN0.trans hN1).drew)) (by omega)
    rw [hL] at hap hO1
    have hNW : Nw W0 W1 := hN1.drew.trans hNa
    refine ⟨g1, c9, W1, hap, KEY _ hN1, KEY _ hN1.drew, KEY _ (hN1.drew.alloc _), KEY _ hNW, ?_⟩
    show Calls _ _ _ _ _
    refine (fEncode_ok W1 _ plain hO1.old ⟨k, b1, b2, b3, b4⟩ hk4 hk7 (by omega)).mono ?_
    rintro e w2 ⟨a2, k2, bl, rfl, hE, hM, h2⟩
    have hf0 : 0 < (frameB ⟨k, b1, b2, b3, b4⟩ plain bl).length := by
      unfold frameB
      simp only [List.length_append, lows_length]
      omega
    have hfs := frameB_len _ plain bl hE
    have hdv : plain.length / siz ⟨k, b1, b2, b3, b4⟩ ≤ plain.length := Nat.div_le_self _ _
    obtain ⟨ga, hga, hO⟩ : ∃ ga, ¬ ga < W1.heap.size ∧ Ow ga (.slice a2 (frameB ⟨k, b1, b2, b3, b4⟩ plain bl).length k2) (frameB ⟨k, b1, b2, b3, b4⟩ plain bl) w2 := by
      rcases hM with ⟨_, h⟩ | h
      · rw [h] at hf0; simp at hf0
      · exact h
    have hO' := hO
    obtain ⟨xs, ex, _⟩ := hO'
    injection ex with ex
    subst ex
    have hsz : w.heap.size < W1.heap.size := by
      have h5 := (Array.getElem?_eq_some_iff.1 hrow).1
      have h6 := hNW.size
      omega
    refine ⟨ga, _, k2, bl, rfl, hf0, by omega, KEY _ (hNW.trans h2), rfl, hE, hO, hN0.trans (hNW.trans h2), by omega, fun V hV => ?_⟩
    have hr2 := (hNW.trans h2).heap hrow
    have hr3 := row_kept hr2 hV (show ¬ w.heap.size = ga by omega)
    exact ⟨(row_cell hr3 0 _ rfl).1, (row_cell hr3 1 _ rfl).1, (row_cell hr3 2 _ rfl).1, (row_cell hr3 3 _ rfl).1, (row_cell hr3 4 _ rfl).1⟩
  have HW0 : Hid (w.alloc (.cells #[.int .i64 k, .bool b1, .bool b2, .bool b3, .bool b4] 24) = W0) := hW0
  have HK : Hid (4 ≤ k ∧ k ≤ 7 ∧ plain.length ≤ 4194304) := ⟨hk4, hk7, by omega⟩
  have HFIN : Hid (∀ V, Nw w V → P (.returned (.bool true)) V) := fun V hV => by rw [hP]; exact ⟨rfl, hV⟩
  clear hP hrow hN0 hW0 KEY hp hL hk4 hk7 hLl
  go_enter Try.func7, Try.ntmps7
  go_upto_region 1 with fail
  rw [HW0.out]
  go_upto_region 3 with (first | (go_at_call 21; (with_reducible refine HL.out.mono ?_); rintro e w1 ⟨rfl, g1, c9, W1, HAP, k0, k1, k2, k3, HE⟩))
  unfold ShC at k0 k1 k2 k3
  go_region_held3 (fun w' => w'.cell? ⟨w.heap.size, 0, none⟩ = some (.int .i64 k) ∧ w'.cell? ⟨w.heap.size, 1, none⟩ = some (.bool b1) ∧ w'.cell? ⟨w.heap.size, 2, none⟩ = some (.bool b2) ∧ w'.cell? ⟨w.heap.size, 3, none⟩ = some (.bool b3) ∧ w'.cell? ⟨w.heap.size, 4, none⟩ = some (.bool b4))
    (first | assumption)
    (first
      | (refine step_append_run rfl _ _ rfl (.slice (some ⟨w1.heap.size, 0, none⟩) 0 0) (.slice a L c) ?_ ?_ _ _ (HAP.out) ?_; (solve | simp [Act.eval]); (solve | simp [Act.eval]))
      | (go_at_call 10; (with_reducible refine (HE.out).mono ?_); rintro e w2 ⟨ga, l2, k2', bl, rfl, hl0, hlb, k4, HF⟩; unfold ShC at k4))
  clear k0 k1 k2 k3
  obtain ⟨y0, y1, y2, y3, y4⟩ := k4
  have hb0 : ¬ (bit : Int) < 0 := by omega
  go_upto_if 42 with fail
  generalize Value.agg #[Value.int IntKind.i64 ↑k, Value.bool b1, Value.bool b2, Value.bool b3, Value.bool b4] = ag
  go_cut [9] (fun x9 wx => wx = w2 ∧ ∃ A : Nat, x9 = .int .i64 A ∧ A ≤ 15 ∧ Hid (A = 4 + hl ⟨k, b1, b2, b3, b4⟩ + 1))
  case first =>
    cases b4 with
    | true =>
      go_wp2_with fail
      go_meet
      exact ⟨rfl, 15, rfl, by omega, rfl⟩
    | false =>
      go_wp2_with fail
      go_meet
      exact ⟨rfl, 7, rfl, by omega, rfl⟩
  case rest =>
    obtain ⟨rfl, A0, rfl, hA0, HA0⟩ := hcut
    obtain ⟨B, hB⟩ : ∃ B, B = bit % (8 * l2) := ⟨_, rfl⟩
    obtain ⟨wh, hw⟩ : ∃ wh, wh = B / 8 := ⟨_, rfl⟩
    obtain ⟨J, hJ⟩ : ∃ J, J = B % 8 := ⟨_, rfl⟩
    have hwl := where_lt bit l2 hl0
    rw [← hB, ← hw, ← hJ] at hwl
    have hz1 : (bit : Int) % (8 * (l2 : Int)) = (B : Int) := by rw [hB]; push_cast; rfl
    have hz2 : (B : Int).tdiv 8 = (wh : Int) := by rw [hw]; rfl
    have hz3 : (B : Int) % 8 = (J : Int) := by omega
    have hz4 : (B : Int).tmod 8 = (J : Int) := by rw [hJ]; rfl
    have hBl : B < 8 * l2 := by rw [hB]; exact Nat.mod_lt _ (by omega)
    have hJl : J < 8 := hwl.2
    have hwl' : wh < l2 := hwl.1
    clear hB hw hJ hwl y0 y1 y2 y3 y4
    go_wp2_with fail
    go_loopg [9, 11] l2 (fun kx vat vfd wr => ∃ (at' : Nat) (fd : Bool), vat = .int .i64 at' ∧ vfd = .bool fd ∧ at' ≤ l2 ∧ l2 - at' ≤ kx ∧ Hid (Nw wc wr ∧ ∃ done rest p, BtI ⟨k, b1, b2, b3, b4⟩ plain bl wh at' fd done rest p))
    case atStart =>
      obtain ⟨e1, hE, hO, hN, hga, hsh⟩ := HF.out
      have hAl : A0 ≤ l2 := by
        rw [HA0.out, e1]
        have hfh : (fhead ⟨k, b1, b2, b3, b4⟩ plain.length).length = hl ⟨k, b1, b2, b3, b4⟩ + 1 := by unfold fhead; rw [List.length_append, fhd_len]; rfl
        rw [frameB_right]
        simp only [List.length_append, lows_length, hfh]
        omega
      exact ⟨A0, false, rfl, rfl, hAl, by omega, Fr.refl _ _, [], bl, 0, by rw [HA0.out]; exact BtI.start _ _ _ _ hE⟩
    case round =>
      obtain ⟨at', fd, rfl, rfl, hat, hkx, HI⟩ := hrel
      have hNr := HI.out.1
      obtain ⟨done, rest, p, hI⟩ := HI.out.2
      obtain ⟨e1, hE, hO, hN, hga, hsh⟩ := HF.out
      have hOr := hO.nw hNr
      obtain ⟨y0, y1, y2, y3, y4⟩ := hsh wr hNr.any
      obtain ⟨x0, x1, x2, x3, g0, g1, g2, g3, hle, hc⟩ := bt_step _ plain bl wh at' fd done rest p hI HK.out.1 HK.out.2.1 HK.out.2.2
      rw [← e1] at hle hc
      have c0 := hOr.some _ _ g0
      have c1 := hOr.some _ _ g1
      have c2 := hOr.some _ _ g2
      have c3 := hOr.some _ _ g3
      have r0 := x0.isLt
      have r1 := x1.isLt
      have r2 := x2.isLt
      have r3 := x3.isLt
      clear g0 g1 g2 g3 hOr
      rcases hc with ⟨q0, q1, q2, q3⟩ | ⟨n, lies, done', rest', p', hn, hl, hnz, hlen, hnx⟩
      · have q0' : (x0.toNat : Int) = 0 := by omega
        have q1' : (x1.toNat : Int) = 0 := by omega
        have q2' : (x2.toNat : Int) = 0 := by omega
        have q3' : (x3.toNat : Int) = 0 := by omega
        rw [q0'] at c0
        rw [q1'] at c1
        rw [q2'] at c2
        rw [q3'] at c3
        obtain ⟨A1, hA1⟩ : ∃ x, x = at' + 1 := ⟨_, rfl⟩
        obtain ⟨A2, hA2⟩ : ∃ x, x = at' + 2 := ⟨_, rfl⟩
        obtain ⟨A3, hA3⟩ : ∃ x, x = at' + 3 := ⟨_, rfl⟩
        obtain ⟨A4, hA4⟩ : ∃ x, x = at' + 4 := ⟨_, rfl⟩
        have v1 : (at' : Int) + 1 = (A1 : Int) := by omega
        have v2 : (at' : Int) + 2 = (A2 : Int) := by omega
        have v3 : (at' : Int) + 3 = (A3 : Int) := by omega
        have v4 : (at' : Int) + 4 = (A4 : Int) := by omega
        have w0' : (at' : Int) < (l2 : Int) := by omega
        have w1' : (A1 : Int) < (l2 : Int) := by omega
        have w2' : (A2 : Int) < (l2 : Int) := by omega
        have w3' : (A3 : Int) < (l2 : Int) := by omega
        have w4' : (A4 : Int) ≤ (l2 : Int) := by omega
        have bA4 : A4 ≤ 200000000 := by omega
        rw [← hA1] at c1
        rw [← hA2] at c2
        rw [← hA3] at c3
        have hwf : wh < (frameB ⟨k, b1, b2, b3, b4⟩ plain bl).length := by rw [← e1]; exact hwl'
        obtain ⟨x9, g9⟩ : ∃ x, (frameB ⟨k, b1, b2, b3, b4⟩ plain bl)[wh]? = some x := ⟨_, List.getElem?_eq_getElem hwf⟩
        obtain ⟨z9, hz9, hne⟩ := flip_byte x9 J hJl
        have hz9' : bits BinOp.xor IntKind.u8 (x9.toNat : Int) ((2 : Int) ^ J % 256) = (z9.toNat : Int) := by
          rw [← hz9]
          obtain ⟨m, hm⟩ : ∃ m, m = 2 ^ J := ⟨_, rfl⟩
          have h2 : m < 256 := by rw [hm]; exact Nat.lt_of_lt_of_le (Nat.pow_lt_pow_right (a := 2) (by decide) hJl) (by decide)
          have h4 : (2 : Int) ^ J = (m : Int) := by rw [hm]; push_cast; rfl
          have h3 : ((2 : Int) ^ J % 256) = ((2 ^ J : Nat) : Int) := by
            rw [h4, ← hm]
            clear hm h4
            omega
          rw [h3]
        clear hz9
        have HEND : Hid (∀ V, Nw wr V → V.cell? ⟨ga, wh, none⟩ = some (.int .u8 x9.toNat) ∧ V.frozen? ⟨ga, wh, none⟩ = false ∧ V.cell? ⟨w.heap.size, 3, none⟩ = some (.bool b3) ∧ ∀ fd' : Bool, (fd' = true → fd = true ∨ (b3 = true ∧ l2 - 4 ≤ wh)) → ∀ V', Nw (V.setCell ⟨ga, wh, none⟩ (.int .u8 (z9.toNat : Int))) V' → Hid (Calls Try.prog 15 #[.slice (some ⟨ga, 0, none⟩) l2 k2', .int .i64 4194304] V' fun e W => ∃ a5 n5 c5 y5 z5, e = .returned (.tuple #[.slice a5 n5 c5, .int .i64 y5, .int .i64 z5]) ∧ (fd' = true → (z5 != 0) = true) ∧ Hid (P (.returned (.bool true)) W))) := by
          intro V hV
          have hOV := hO.nw (hNr.trans hV)
          refine ⟨hOV.some _ _ g9, (hOV.at wh hwf).2, (hsh V (hNr.trans hV).any).2.2.2.1, fun fd' hf V' hV' => ?_⟩
          show Calls _ _ _ _ _
          have hP9 := (hOV.put wh hwf z9 _ rfl).nw hV'
          refine (fdecode_any _ _ _ 4194304 hP9.old (by rw [List.length_set, ← e1]; omega)).mono ?_
          rintro e W ⟨a5, c5, rfl, _, hNW⟩
          refine ⟨a5, _, c5, _, _, rfl, fun hx => bne_iff_ne.2 (fun h0 => ?_), HFIN.out W ?_⟩
          · exact bt_end _ plain bl wh at' fd done rest p hI HK.out.1 HK.out.2.1 HK.out.2.2 hE hwf fd' (by rw [← e1]; exact hf) hx x9 z9 g9 hne (Int.natCast_eq_zero.1 h0)
          · exact ((hN.trans (hNr.trans hV)).setCell _ _ (.inr (Nat.le_of_lt hga))).trans (hV'.trans hNW)
        clear hI HI hNr e1 hE hO hN hga hsh hle hA1 hA2 hA3 hA4 hwf g9 hne q0 q1 q2 q3 q0' q1' q2' q3' r0 r1 r2 r3
        go_wp2_with fail
        go_quiet (fail)
        obtain ⟨f1, f2, f3, _⟩ := HEND.out wr (Fr.refl _ _)
        obtain ⟨_, _, _, HD⟩ := HEND.out (wr.drewN (nq + 1)) ((Fr.refl _ _).drewN _)
        clear HEND
        obtain ⟨L4, hL4⟩ : ∃ x, x = l2 - 4 := ⟨_, rfl⟩
        have v9 : (l2 : Int) - 4 = (L4 : Int) := by omega
        rw [← hL4] at HD
        have bL4 : L4 ≤ 200000000 := by omega
        clear hL4 y0 y1 y2 y3 y4
        rcases (show b3 = true ∨ b3 = false by cases b3 <;> simp) with hb3 | hb3
        · rw [hb3] at f3
          cases fd with
          | true =>
            have HC := HD true (fun _ => .inl (by trivial)) _ (Fr.refl _ _)
            clear HD
            go_upto_region 24 with fail
            
            go_region
            try rw [hz9']
            go_wp2_with (first | (go_at_call 15; (with_reducible refine HC.out.mono ?_); rintro e w9 ⟨a5, n5, c5, y5, z5, rfl, hne5, HP9⟩))
            exact HP9.out
          | false =>
            rcases Nat.lt_or_ge wh L4 with d1 | d1
            · have d2 : ¬ (L4 : Int) ≤ (wh : Int) := by omega
              have d3 : decide ((L4 : Int) ≤ (wh : Int)) = false := decide_eq_false d2
              have HC := HD false (fun h => by cases h) _ (Fr.refl _ _)
              clear HD
              go_upto_region 24 with fail
              
              go_region
              try rw [hz9']
              go_wp2_with (first | (go_at_call 15; (with_reducible refine HC.out.mono ?_); rintro e w9 ⟨a5, n5, c5, y5, z5, rfl, hne5, HP9⟩))
              exact HP9.out
            · have d2 : (L4 : Int) ≤ (wh : Int) := by omega
              have d3 : decide ((L4 : Int) ≤ (wh : Int)) = true := decide_eq_true d2
              have HC := HD true (fun _ => .inr ⟨hb3, d1⟩) _ (Fr.refl _ _)
              clear HD
              go_upto_region 24 with fail
              
              go_region
              try rw [hz9']
              go_wp2_with (first | (go_at_call 15; (with_reducible refine HC.out.mono ?_); rintro e w9 ⟨a5, n5, c5, y5, z5, rfl, hne5, HP9⟩))
              exact HP9.out
        · rw [hb3] at f3
          cases fd with
          | true =>
            have HC := HD true (fun _ => .inl (by trivial)) _ (Fr.refl _ _)
            clear HD
            go_upto_region 24 with fail
            
            go_region
            try rw [hz9']
            go_wp2_with (first | (go_at_call 15; (with_reducible refine HC.out.mono ?_); rintro e w9 ⟨a5, n5, c5, y5, z5, rfl, hne5, HP9⟩))
            exact HP9.out
          | false =>
            have HC := HD false (fun h => by cases h) _ (Fr.refl _ _)
            clear HD
            go_upto_region 24 with fail
            
            go_region
            try rw [hz9']
            go_wp2_with (first | (go_at_call 15; (with_reducible refine HC.out.mono ?_); rintro e w9 ⟨a5, n5, c5, y5, z5, rfl, hne5, HP9⟩))
            exact HP9.out
      · generalize x0.toNat = z0 at *
        generalize x1.toNat = z1 at *
        generalize x2.toNat = z2 at *
        generalize x3.toNat = z3 at *
        obtain ⟨A1, hA1⟩ : ∃ x, x = at' + 1 := ⟨_, rfl⟩
        obtain ⟨A2, hA2⟩ : ∃ x, x = at' + 2 := ⟨_, rfl⟩
        obtain ⟨A3, hA3⟩ : ∃ x, x = at' + 3 := ⟨_, rfl⟩
        obtain ⟨A4, hA4⟩ : ∃ x, x = at' + 4 := ⟨_, rfl⟩
        have v1 : (at' : Int) + 1 = (A1 : Int) := by omega
        have v2 : (at' : Int) + 2 = (A2 : Int) := by omega
        have v3 : (at' : Int) + 3 = (A3 : Int) := by omega
        have v4 : (at' : Int) + 4 = (A4 : Int) := by omega
        have w0' : (at' : Int) < (l2 : Int) := by omega
        have w1' : (A1 : Int) < (l2 : Int) := by omega
        have w2' : (A2 : Int) < (l2 : Int) := by omega
        have w3' : (A3 : Int) < (l2 : Int) := by omega
        have w4' : (A4 : Int) ≤ (l2 : Int) := by omega
        have bA4 : A4 ≤ 200000000 := by omega
        rw [← hA1] at c1
        rw [← hA2] at c2
        rw [← hA3] at c3
        obtain ⟨A8, hA8⟩ : ∃ x, x = at' + 8 := ⟨_, rfl⟩
        obtain ⟨N1, hN1⟩ : ∃ x, x = A4 + n := ⟨_, rfl⟩
        obtain ⟨N2, hN2⟩ : ∃ x, x = A8 + n := ⟨_, rfl⟩
        have hlen1 : N1 ≤ l2 := by omega
        have hb2 : b2 = true ∨ b2 = false := by cases b2 <;> simp
        have hlen2 : b2 = true → N2 ≤ l2 := fun h => by unfold bs at hlen; rw [if_pos h] at hlen; omega
        have HNX2 : Hid (b2 = true → ∀ V, Nw wr V → ∀ nx, (nx = true → fd = true ∨ (A4 ≤ wh ∧ wh < N2)) → Nw wc V ∧ ∃ done rest p, BtI ⟨k, b1, b2, b3, b4⟩ plain bl wh N2 nx done rest p) := fun hb V hV nx h => ⟨hNr.trans hV, _, _, _, by
          have h5 := hnx nx (fun hx => by
            rcases h hx with h | ⟨h3, h4⟩
            · exact .inl h
            · exact .inr (.inl ⟨hb, by omega, by omega⟩))
          have h6 : at' + 4 + n + bs ⟨k, b1, b2, b3, b4⟩ = N2 := by unfold bs; rw [if_pos hb]; omega
          rw [h6] at h5
          exact h5⟩
        have HNX1 : Hid (b2 = false → ∀ V, Nw wr V → ∀ nx, (nx = true → fd = true ∨ (b1 = true ∧ b3 = true ∧ lies = true ∧ A4 ≤ wh ∧ wh < N1)) → Nw wc V ∧ ∃ done rest p, BtI ⟨k, b1, b2, b3, b4⟩ plain bl wh N1 nx done rest p) := fun hb V hV nx h => ⟨hNr.trans hV, _, _, _, by
          have h5 := hnx nx (fun hx => by
            rcases h hx with h | ⟨h3, h4, h7, h8, h9⟩
            · exact .inl h
            · exact .inr (.inr ⟨hb, h3, h4, h7, by omega, by omega⟩))
          have h6 : at' + 4 + n + bs ⟨k, b1, b2, b3, b4⟩ = N1 := by
            have hb' : ¬ b2 = true := fun hx => by rw [hb] at hx; cases hx
            unfold bs
            rw [if_neg hb']
            omega
          rw [h6] at h5
          exact h5⟩
        have v5 : (at' : Int) + 8 = (A8 : Int) := by omega
        have v6 : (A4 : Int) + (n : Int) = (N1 : Int) := by omega
        have v7 : (A8 : Int) + (n : Int) = (N2 : Int) := by omega
        have v8 : (A4 : Int) + 4 = (A8 : Int) := by omega
        have bA : A8 ≤ 200000000 := by omega
        have bN : N2 ≤ 400000000 := by omega
        have bN1 : N1 ≤ 400000000 := by omega
        have hnn : (z0 : Int) + (z1 : Int) * 256 + (z2 : Int) * 65536 + (z3 : Int) % 128 * 16777216 = (n : Int) := by omega
        have hn0 : ¬ (n : Int) = 0 := by omega
        have hn1 : ((n : Int) == 0) = false := by simp; omega
        have hli : decide ((128 : Int) ≤ (z3 : Int)) = lies := by
          cases lies with
          | true => exact decide_eq_true (by have := hl.2 rfl; omega)
          | false => exact decide_eq_false (fun hx => by have := hl.1 (by omega); cases this)
        have HLS : Hid (A4 ≤ N1 ∧ N1 ≤ N2 ∧ at' < N1 ∧ (b2 = true → N2 ≤ l2) ∧ N1 ≤ l2) := ⟨by omega, by omega, by omega, hlen2, hlen1⟩
        clear hlen hn hA1 hA2 hA3 hA4 hA8 hN1 hN2 hle hnx hI HI hNr e1 hE hO hN hga hsh hl hnz hlen1 hlen2
        go_wp2_with fail
        go_quiet (fail)
        clear hnn
        go_upto_if 96 with fail
        rcases hb2 with hb | hb
        · rw [hb] at y2
          cases fd with
          | true =>
            rcases Nat.lt_or_ge wh A4 with d1 | d1
            · skip
              have d2 : ¬ (A4 : Int) ≤ (wh : Int) := by omega
              have d3 : decide ((A4 : Int) ≤ (wh : Int)) = false := decide_eq_false d2
              have d4 : ¬ (N1 : Int) ≤ (wh : Int) := by have := HLS.out.1; omega
              have d5 : decide ((N1 : Int) ≤ (wh : Int)) = false := decide_eq_false d4
              go_wp2_with fail
              go_roundg (l2 - N2)
              all_goals (first | (have h0 := HLS.out.2.2.2.1 hb; have h9 := HLS.out.2.1; have h8 := HLS.out.2.2.1; omega) | exact ⟨N2, _, rfl, rfl, HLS.out.2.2.2.1 hb, by omega, HNX2.out hb _ ((Fr.refl _ _).drewN _) _ (fun _ => .inl (by trivial))⟩)
            · rcases Nat.lt_or_ge wh N1 with d0 | d0
              · skip
                have d2 : (A4 : Int) ≤ (wh : Int) := by omega
                have d3 : decide ((A4 : Int) ≤ (wh : Int)) = true := decide_eq_true d2
                have d4 : (wh : Int) < (N1 : Int) := by omega
                have d5 : decide ((wh : Int) < (N1 : Int)) = true := decide_eq_true d4
                go_wp2_with fail
                go_roundg (l2 - N2)
                all_goals (first | (have h0 := HLS.out.2.2.2.1 hb; have h9 := HLS.out.2.1; have h8 := HLS.out.2.2.1; omega) | exact ⟨N2, _, rfl, rfl, HLS.out.2.2.2.1 hb, by omega, HNX2.out hb _ ((Fr.refl _ _).drewN _) _ (fun _ => .inl (by trivial))⟩)
              · skip
                have d2 : (A4 : Int) ≤ (wh : Int) := by omega
                have d3 : decide ((A4 : Int) ≤ (wh : Int)) = true := decide_eq_true d2
                have d4 : ¬ (wh : Int) < (N1 : Int) := by omega
                have d5 : decide ((wh : Int) < (N1 : Int)) = false := decide_eq_false d4
                have d6 : (N1 : Int) ≤ (wh : Int) := by omega
                have d7 : decide ((N1 : Int) ≤ (wh : Int)) = true := decide_eq_true d6
                go_wp2_with fail
                go_roundg (l2 - N2)
                all_goals (first | (have h0 := HLS.out.2.2.2.1 hb; have h9 := HLS.out.2.1; have h8 := HLS.out.2.2.1; omega) | exact ⟨N2, _, rfl, rfl, HLS.out.2.2.2.1 hb, by omega, HNX2.out hb _ ((Fr.refl _ _).drewN _) _ (fun _ => .inl (by trivial))⟩)
          | false =>
            rcases Nat.lt_or_ge wh A4 with d1 | d1
            · skip
              have d2 : ¬ (A4 : Int) ≤ (wh : Int) := by omega
              have d3 : decide ((A4 : Int) ≤ (wh : Int)) = false := decide_eq_false d2
              have d4 : ¬ (N1 : Int) ≤ (wh : Int) := by have := HLS.out.1; omega
              have d5 : decide ((N1 : Int) ≤ (wh : Int)) = false := decide_eq_false d4
              go_wp2_with fail
              go_roundg (l2 - N2)
              all_goals (first | (have h0 := HLS.out.2.2.2.1 hb; have h9 := HLS.out.2.1; have h8 := HLS.out.2.2.1; omega) | exact ⟨N2, _, rfl, rfl, HLS.out.2.2.2.1 hb, by omega, HNX2.out hb _ ((Fr.refl _ _).drewN _) _ (fun h => by cases h)⟩)
            · rcases Nat.lt_or_ge wh N1 with d0 | d0
              · skip
                have d2 : (A4 : Int) ≤ (wh : Int) := by omega
                have d3 : decide ((A4 : Int) ≤ (wh : Int)) = true := decide_eq_true d2
                have d4 : (wh : Int) < (N1 : Int) := by omega
                have d5 : decide ((wh : Int) < (N1 : Int)) = true := decide_eq_true d4
                go_wp2_with fail
                go_roundg (l2 - N2)
                all_goals (first | (have h0 := HLS.out.2.2.2.1 hb; have h9 := HLS.out.2.1; have h8 := HLS.out.2.2.1; omega) | exact ⟨N2, _, rfl, rfl, HLS.out.2.2.2.1 hb, by omega, HNX2.out hb _ ((Fr.refl _ _).drewN _) _ (fun _ => .inr ⟨d1, by have := HLS.out.2.1; omega⟩)⟩)
              · skip
                have d2 : (A4 : Int) ≤ (wh : Int) := by omega
                have d3 : decide ((A4 : Int) ≤ (wh : Int)) = true := decide_eq_true d2
                have d4 : ¬ (wh : Int) < (N1 : Int) := by omega
                have d5 : decide ((wh : Int) < (N1 : Int)) = false := decide_eq_false d4
                have d6 : (N1 : Int) ≤ (wh : Int) := by omega
                have d7 : decide ((N1 : Int) ≤ (wh : Int)) = true := decide_eq_true d6
                go_wp2_with fail
                go_roundg (l2 - N2)
                all_goals (first | (have h0 := HLS.out.2.2.2.1 hb; have h9 := HLS.out.2.1; have h8 := HLS.out.2.2.1; omega) | exact ⟨N2, _, rfl, rfl, HLS.out.2.2.2.1 hb, by omega, HNX2.out hb _ ((Fr.refl _ _).drewN _) _ (fun h => .inr ⟨d1, by have := of_decide_eq_true h; omega⟩)⟩)
        · rw [hb] at y2
          cases fd with
          | true =>
            rcases Nat.lt_or_ge wh A4 with d1 | d1
            · skip
              have d2 : ¬ (A4 : Int) ≤ (wh : Int) := by omega
              have d3 : decide ((A4 : Int) ≤ (wh : Int)) = false := decide_eq_false d2
              have d4 : ¬ (N1 : Int) ≤ (wh : Int) := by have := HLS.out.1; omega
              have d5 : decide ((N1 : Int) ≤ (wh : Int)) = false := decide_eq_false d4
              go_wp2_with fail
              go_roundg (l2 - N1)
              all_goals (first | (have h0 := HLS.out.2.2.2.2; have h8 := HLS.out.2.2.1; omega) | exact ⟨N1, _, rfl, rfl, HLS.out.2.2.2.2, by omega, HNX1.out hb _ ((Fr.refl _ _).drewN _) _ (fun _ => .inl (by trivial))⟩)
            · rcases Nat.lt_or_ge wh N1 with d0 | d0
              · skip
                have d2 : (A4 : Int) ≤ (wh : Int) := by omega
                have d3 : decide ((A4 : Int) ≤ (wh : Int)) = true := decide_eq_true d2
                have d4 : (wh : Int) < (N1 : Int) := by omega
                have d5 : decide ((wh : Int) < (N1 : Int)) = true := decide_eq_true d4
                go_wp2_with fail
                go_roundg (l2 - N1)
                all_goals (first | (have h0 := HLS.out.2.2.2.2; have h8 := HLS.out.2.2.1; omega) | exact ⟨N1, _, rfl, rfl, HLS.out.2.2.2.2, by omega, HNX1.out hb _ ((Fr.refl _ _).drewN _) _ (fun _ => .inl (by trivial))⟩)
              · skip
                have d2 : (A4 : Int) ≤ (wh : Int) := by omega
                have d3 : decide ((A4 : Int) ≤ (wh : Int)) = true := decide_eq_true d2
                have d4 : ¬ (wh : Int) < (N1 : Int) := by omega
                have d5 : decide ((wh : Int) < (N1 : Int)) = false := decide_eq_false d4
                have d6 : (N1 : Int) ≤ (wh : Int) := by omega
                have d7 : decide ((N1 : Int) ≤ (wh : Int)) = true := decide_eq_true d6
                go_wp2_with fail
                go_roundg (l2 - N1)
                all_goals (first | (have h0 := HLS.out.2.2.2.2; have h8 := HLS.out.2.2.1; omega) | exact ⟨N1, _, rfl, rfl, HLS.out.2.2.2.2, by omega, HNX1.out hb _ ((Fr.refl _ _).drewN _) _ (fun _ => .inl (by trivial))⟩)
          | false =>
            rcases Nat.lt_or_ge wh A4 with d1 | d1
            · skip
              have d2 : ¬ (A4 : Int) ≤ (wh : Int) := by omega
              have d3 : decide ((A4 : Int) ≤ (wh : Int)) = false := decide_eq_false d2
              have d4 : ¬ (N1 : Int) ≤ (wh : Int) := by have := HLS.out.1; omega
              have d5 : decide ((N1 : Int) ≤ (wh : Int)) = false := decide_eq_false d4
              go_wp2_with fail
              go_roundg (l2 - N1)
              all_goals (first | (have h0 := HLS.out.2.2.2.2; have h8 := HLS.out.2.2.1; omega) | exact ⟨N1, _, rfl, rfl, HLS.out.2.2.2.2, by omega, HNX1.out hb _ ((Fr.refl _ _).drewN _) _ (fun h => by cases h)⟩)
            · rcases Nat.lt_or_ge wh N1 with d0 | d0
              · skip
                have d2 : (A4 : Int) ≤ (wh : Int) := by omega
                have d3 : decide ((A4 : Int) ≤ (wh : Int)) = true := decide_eq_true d2
                have d4 : (wh : Int) < (N1 : Int) := by omega
                have d5 : decide ((wh : Int) < (N1 : Int)) = true := decide_eq_true d4
                cases lies with
                | false =>
                  go_wp2_with fail
                  go_roundg (l2 - N1)
                  all_goals (first | (have h0 := HLS.out.2.2.2.2; have h8 := HLS.out.2.2.1; omega) | exact ⟨N1, _, rfl, rfl, HLS.out.2.2.2.2, by omega, HNX1.out hb _ ((Fr.refl _ _).drewN _) _ (fun h => by cases h)⟩)
                | true =>
                  rcases (show b1 = true ∨ b1 = false by cases b1 <;> simp) with hb1 | hb1
                  · rw [hb1] at y1
                    go_wp2_with fail
                    go_roundg (l2 - N1)
                    all_goals (first | (have h0 := HLS.out.2.2.2.2; have h8 := HLS.out.2.2.1; omega) | exact ⟨N1, _, rfl, rfl, HLS.out.2.2.2.2, by omega, HNX1.out hb _ ((Fr.refl _ _).drewN _) _ (fun h => .inr ⟨hb1, h, by trivial, d1, d0⟩)⟩)
                  · rw [hb1] at y1
                    go_wp2_with fail
                    go_roundg (l2 - N1)
                    all_goals (first | (have h0 := HLS.out.2.2.2.2; have h8 := HLS.out.2.2.1; omega) | exact ⟨N1, _, rfl, rfl, HLS.out.2.2.2.2, by omega, HNX1.out hb _ ((Fr.refl _ _).drewN _) _ (fun h => by cases h)⟩)
              · skip
                have d2 : (A4 : Int) ≤ (wh : Int) := by omega
                have d3 : decide ((A4 : Int) ≤ (wh : Int)) = true := decide_eq_true d2
                have d4 : ¬ (wh : Int) < (N1 : Int) := by omega
                have d5 : decide ((wh : Int) < (N1 : Int)) = false := decide_eq_false d4
                have d6 : (N1 : Int) ≤ (wh : Int) := by omega
                have d7 : decide ((N1 : Int) ≤ (wh : Int)) = true := decide_eq_true d6
                go_wp2_with fail
                go_roundg (l2 - N1)
                all_goals (first | (have h0 := HLS.out.2.2.2.2; have h8 := HLS.out.2.2.1; omega) | exact ⟨N1, _, rfl, rfl, HLS.out.2.2.2.2, by omega, HNX1.out hb _ ((Fr.refl _ _).drewN _) _ (fun h => by cases h)⟩)
end Go.Proofs.Ytdeefemeiggolaa
