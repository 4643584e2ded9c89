import Derived.Test.YtdeefemeiggolaaQq
import Derived.Test.YtdeefemeiggolaaQr
namespace Go.Proofs.Ytdeefemeiggolaa
open Go.RowKit
set_option linter.unusedVariables false
variable {D rb g o c : Nat} {b : List By} {most p : Nat} {out : List By} {K : Nat → Prop} {w : World}
theorem nat_and_bit (x k : Nat) : x &&& 2 ^ k = 2 ^ k * (x / 2 ^ k % 2) := by
  apply Nat.eq_of_testBit_eq
  intro i
  rw [Nat.testBit_and, Nat.testBit_two_pow]
  have e : 2 ^ k * (x / 2 ^ k % 2) = (x / 2 ^ k % 2) <<< k := by rw [Nat.shiftLeft_eq, Nat.mul_comm]
  rw [e, Nat.testBit_shiftLeft]
  by_cases hi : k = i
  · subst hi
    simp [Nat.testBit, Nat.shiftRight_eq_div_pow]
  · by_cases hki : k ≤ i
    · have hp : (x / 2 ^ k % 2).testBit (i - k) = false := Nat.testBit_lt_two_pow (Nat.lt_of_lt_of_le (Nat.mod_lt _ (by decide)) (Nat.pow_le_pow_right (n := 2) (by decide) (show 1 ≤ i - k by omega)))
      simp [hi, hp]
    · simp [hi, hki]
set_option maxRecDepth 100000 in
theorem blk_not (N : Nat) (h : N < 4294967296) : bits .andNot .u64 (N : Int) 2147483648 = ((N % 2147483648 : Nat) : Int) := by
  have e := u64_andNot_nat N 2147483648 (by omega) (by decide)
  have e2 : ((2147483648 : Nat) : Int) = 2147483648 := rfl
  rw [e2] at e
  rw [e]
  congr 1
  have e3 : N &&& (18446744073709551615 - 2147483648) = N &&& (2 ^ 31 - 1) := by
    apply Nat.eq_of_testBit_eq
    intro i
    rw [Nat.testBit_and, Nat.testBit_and]
    by_cases hi : i < 32
    · have hd : ∀ j : Fin 32, (18446744073709551615 - 2147483648).testBit j.val = (2 ^ 31 - 1).testBit j.val := by decide
      rw [hd ⟨i, hi⟩]
    · have : N.testBit i = false := Nat.testBit_lt_two_pow (Nat.lt_of_lt_of_le h (Nat.pow_le_pow_right (n := 2) (by decide) (show 32 ≤ i by omega)))
      simp [this]
  rw [e3, Nat.and_two_pow_sub_one_eq_mod]
theorem blk_and (N : Nat) (h : N < 4294967296) : (bits .and .u64 (N : Int) 2147483648 != 0) = decide (2147483648 ≤ N) := by
  have e := u64_and_nat N 2147483648 (by omega) (by decide)
  have e2 : ((2147483648 : Nat) : Int) = 2147483648 := rfl
  rw [e2] at e
  rw [e, show N &&& 2147483648 = 2 ^ 31 * (N / 2 ^ 31 % 2) from nat_and_bit N 31, Bool.eq_iff_iff]
  simp only [bne_iff_ne, ne_eq, decide_eq_true_eq]
  omega
/-- What block answers. -/
def Blk (D rb g o c : Nat) (b : List By) (most p : Nat) (out : List By) (K : Nat → Prop) (w : World) (fb : Nat) (f : Fm) (r : Bk) (e : Ending) (w' : World) : Prop :=
  Fr (fun k => k = rb ∨ k = fb ∨ ¬ K k) w w' ∧ match r with
    | .bad a y => e = flt a y
    | .fin => e = .returned (.bool false) ∧ RdI D rb g o c b most (p + 4) out K w' ∧ FB fb f w'
    | .ok p' out' pl => e = .returned (.bool true) ∧ RdI D rb g o c b most p' out' K w' ∧ FB fb { f with blocks := f.blocks + 1, plain := if pl = true then f.plain + 1 else f.plain } w'
/-- The state of a reader and a frame's telling. -/
def Twx (D rb g o c : Nat) (b : List By) (most p : Nat) (out : List By) (K : Nat → Prop) (w : World) (fb : Nat) (f : Fm) (V : World) : Prop := RdI D rb g o c b most p out K V ∧ FB fb f V ∧ Fr (fun k => k = rb ∨ k = fb ∨ ¬ K k) w V
set_option maxHeartbeats 16000000 in
set_option maxRecDepth 100000 in
theorem rblock_any (h : RdI D rb g o c b most p out K w) (fb : Nat) (f : Fm) (hf : FB fb f w) (hfr : fb ≠ rb) (hKf : K fb) (hDf : D ≤ fb) (hs1 : 4 ≤ f.shape.block) (hs2 : f.shape.block ≤ 7) (began : Nat) (hbg : began ≤ out.length) (hb1 : f.blocks < 4611686018427387904) (hb2 : f.plain < 4611686018427387904) :
    Calls Try.prog 76 #[.pointer (some ⟨rb, 0, none⟩), .pointer (some ⟨fb, 0, none⟩), .int .i64 began] w (Blk D rb g o c b most p out K w fb f (blockF b most f.shape began p out)) := by
  obtain ⟨P, hP⟩ : ∃ P : Ending → World → Prop, P = Blk D rb g o c b most p out K w fb f (blockF b most f.shape began p out) := ⟨_, rfl⟩
  rw [← hP]
  obtain ⟨x0, x1, x2, x3, _⟩ := h.cells
  have hbl := h.bl
  have hpl := h.pl
  have hml := h.ml
  have hol := h.ol
  have PAN : Hid (∀ a y e w', blockF b most f.shape began p out = .bad a y → e = flt a y → Fr (fun k => k = rb ∨ k = fb ∨ ¬ K k) w w' → P e w') := by
    intro a y e w' h1 h2 h3
    rw [hP]
    refine ⟨h3, ?_⟩
    rw [h1]; exact h2
  by_cases q1 : b.length < p + 4
  · have hh : blockF b most f.shape began p out = .bad b.length 4 := by unfold blockF; rw [if_pos q1]
    have HN : Hid (Calls Try.prog 63 #[.pointer (some ⟨rb, 0, none⟩), .int .i64 4] w fun e w1 => ∃ ch, e = .panicked ch ∧ Hid (P (.panicked ch) w1)) := by
      show Calls _ _ _ _ _
      refine (rnumber_bad h 4 (by decide) q1).mono ?_
      rintro e w1 ⟨rfl, h1⟩
      exact ⟨_, rfl, PAN.out _ _ _ _ hh rfl h1.any⟩
    clear h hf hP PAN hh
    go_enter Try.func76, Try.ntmps76
    go_wp2_with (first | (go_at_call 63; with_reducible refine HN.out.mono ?_; rintro e w1 ⟨ch, rfl, HF⟩))
    exact ⟨rfl, HF.out⟩
  have hNlt : le (tk b p 4) < 4294967296 := by have := le_lt (tk b p 4); rw [tk_length b p 4 (by omega)] at this; exact this
  have HN : Hid (Calls Try.prog 63 #[.pointer (some ⟨rb, 0, none⟩), .int .i64 4] w fun e w1 => e = .returned (.int .u64 (le (tk b p 4))) ∧ w1.cell? ⟨rb, 1, none⟩ = some (.int .i64 ((p + 4 : Nat) : Int)) ∧ w1.cell? ⟨fb, 4, none⟩ = some (.int .i64 f.shape.block) ∧ Hid (Twx D rb g o c b most (p + 4) out K w fb f w1)) := by
    show Calls _ _ _ _ _
    refine (rnumber_ok h 4 (by decide) (by decide) (by omega)).mono ?_
    rintro e w1 ⟨rfl, h1, h2⟩
    have h3 := hf.kept h2 hfr
    exact ⟨rfl, h1.cells.2.1, (row_cell h3 4 _ rfl).1, h1, h3, h2.mono (fun k hk => .inl (.inl hk))⟩
  by_cases q2 : le (tk b p 4) = 0
  · have hh : blockF b most f.shape began p out = .fin := by unfold blockF; rw [if_neg q1, if_pos q2]
    have HE : Hid (∀ V, Hid (Twx D rb g o c b most (p + 4) out K w fb f V) → P (.returned (.bool false)) V) := by
      intro V hV
      rw [hP, hh]
      exact ⟨hV.out.2.2, rfl, hV.out.1, hV.out.2.1⟩
    rw [q2] at HN
    clear h hf hP PAN hh
    go_enter Try.func76, Try.ntmps76
    go_wp2_with (first | (go_at_call 63; with_reducible refine HN.out.mono ?_; rintro e w1 ⟨rfl, c1, c2, H1⟩))
    exact HE.out _ H1
  have HL : Hid (∀ V, Calls Try.prog 39 #[.int .i64 f.shape.block] V fun e w' => e = .returned (.int .i64 (siz f.shape)) ∧ w' = V) := fun V => flongest_any f.shape.block hs1 hs2 V
  have hsz : siz f.shape ≤ 4194304 := Nat.le_trans (Nat.pow_le_pow_right (by decide) (show 8 + 2 * f.shape.block ≤ 22 by omega)) (by decide)
  have hnot := blk_not (le (tk b p 4)) hNlt
  have hand := blk_and (le (tk b p 4)) hNlt
  have hz0 : ¬ ((le (tk b p 4) : Nat) : Int) = 0 := by omega
  obtain ⟨m, hm⟩ : ∃ m, le (tk b p 4) % 2147483648 = m := ⟨_, rfl⟩
  have hmlt : m < 2147483648 := by omega
  rw [hm] at hnot
  by_cases q3 : siz f.shape < m
  · have hh : blockF b most f.shape began p out = .bad p 43 := by unfold blockF; rw [if_neg q1, if_neg q2, hm, if_pos q3]
    have HG : Hid (∀ V, Hid (Twx D rb g o c b most (p + 4) out K w fb f V) → Calls Try.prog 66 #[.int .i64 p, .int .i64 43] V fun e w2 => ∃ ch, e = .panicked ch ∧ Hid (P (.panicked ch) w2)) := by
      intro V hV
      refine (fgiveUp_any p 43 V).mono ?_
      rintro e w3 ⟨rfl, rfl⟩
      exact ⟨_, rfl, PAN.out _ _ _ _ hh rfl hV.out.2.2⟩
    have hz1 : ((siz f.shape : Nat) : Int) < (m : Int) := by omega
    clear h hf hP PAN hh hm
    generalize le (tk b p 4) = N at *
    generalize siz f.shape = Z at *
    go_enter Try.func76, Try.ntmps76
    go_wp2_with (first | (go_at_call 63; with_reducible refine HN.out.mono ?_; rintro e w1 ⟨rfl, c1, c2, H1⟩) | (go_at_call 39; with_reducible refine (HL.out _).mono ?_; rintro e wl ⟨rfl, rfl⟩) | (go_at_call 66; with_reducible refine (HG.out _ H1).mono ?_; rintro e w4 ⟨ch, rfl, HF⟩))
    exact ⟨rfl, HF.out⟩
  have hz1 : ¬ ((siz f.shape : Nat) : Int) < (m : Int) := by omega
  by_cases q4 : b.length < p + 4 + m
  · have hh : blockF b most f.shape began p out = .bad b.length 4 := by unfold blockF; rw [if_neg q1, if_neg q2, hm, if_neg q3, if_pos (by omega)]
    have HT : Hid (∀ V, Hid (Twx D rb g o c b most (p + 4) out K w fb f V) → Calls Try.prog 65 #[.pointer (some ⟨rb, 0, none⟩), .int .i64 m] V fun e w2 => ∃ ch, e = .panicked ch ∧ Hid (P (.panicked ch) w2)) := by
      intro V hV
      refine (rtake_bad hV.out.1 m (by omega) (by omega)).mono ?_
      rintro e w2 ⟨rfl, h1⟩
      exact ⟨_, rfl, PAN.out _ _ _ _ hh rfl (hV.out.2.2.trans h1.any)⟩
    clear h hf hP PAN hh hm
    generalize le (tk b p 4) = N at *
    generalize siz f.shape = Z at *
    go_enter Try.func76, Try.ntmps76
    go_wp2_with (first | (go_at_call 63; with_reducible refine HN.out.mono ?_; rintro e w1 ⟨rfl, c1, c2, H1⟩) | (go_at_call 39; with_reducible refine (HL.out _).mono ?_; rintro e wl ⟨rfl, rfl⟩) | (go_at_call 65; with_reducible refine (HT.out _ H1).mono ?_; rintro e w4 ⟨ch, rfl, HF⟩))
    exact ⟨rfl, HF.out⟩
  have HT : Hid (∀ V, Hid (Twx D rb g o c b most (p + 4) out K w fb f V) → Calls Try.prog 65 #[.pointer (some ⟨rb, 0, none⟩), .int .i64 m] V fun e w2 => ∃ a2 k2, e = .returned (.slice a2 m k2) ∧ w2.cell? ⟨fb, 6, none⟩ = some (.bool f.shape.bsum) ∧ w2.cell? ⟨fb, 9, none⟩ = some (.int .i64 f.blocks) ∧ w2.frozen? ⟨fb, 9, none⟩ = false ∧ Hid (Cut D b (p + 4) m (.slice a2 m k2) w2 ∧ Twx D rb g o c b most (p + 4 + m) out K w fb f w2)) := by
    intro V hV
    refine (rtake_ok hV.out.1 m (by omega)).mono ?_
    rintro e w2 ⟨v, rfl, ⟨a2, k2, rfl, h1⟩, h2, h3⟩
    have h4 := hV.out.2.1.kept h3 hfr
    exact ⟨a2, k2, rfl, (row_cell h4 6 _ rfl).1, (row_cell h4 9 _ rfl).1, (row_cell h4 9 _ rfl).2, ⟨a2, k2, rfl, h1⟩, h2, h4, hV.out.2.2.trans (h3.mono (fun k hk => .inl (.inl hk)))⟩
  have hlk : (tk b (p + 4) m).length = m := tk_length _ _ _ (by omega)
  have HSL : Hid (∀ v V, Cut D b (p + 4) m v V → RdI D rb g o c b most (p + 4 + m) out K V → Sl (fun k => k = rb ∨ V.heap.size ≤ k) v (tk b (p + 4) m) V) := by
    intro v V h1 h2
    obtain ⟨_, _, _, _, _, h3⟩ := h1
    have := h2.lt rb h2.kr
    have := h2.dr
    exact h3.mono (fun k hk => by rcases hk with hk | hk <;> omega)
  by_cases q5 : f.shape.bsum = true ∧ b.length < p + 4 + m + 4
  · have hh : blockF b most f.shape began p out = .bad b.length 4 := by unfold blockF; rw [if_neg q1, if_neg q2, hm, if_neg q3, if_pos (by unfold bs; rw [if_pos q5.1]; omega)]
    have HCK : Hid (∀ v V, Hid (Cut D b (p + 4) m v V ∧ Twx D rb g o c b most (p + 4 + m) out K w fb f V) → Calls Try.prog 77 #[.pointer (some ⟨rb, 0, none⟩), v, .int .i64 44] V fun e w2 => ∃ ch, e = .panicked ch ∧ Hid (P (.panicked ch) w2)) := by
      intro v V hV
      refine (rcheck_short hV.out.2.1 v _ (HSL.out _ _ hV.out.1 hV.out.2.1) 44 (by omega)).mono ?_
      rintro e w2 ⟨rfl, h1⟩
      exact ⟨_, rfl, PAN.out _ _ _ _ hh rfl (hV.out.2.2.2.trans (h1.mono (fun k hk => .inl (.inl hk))))⟩
    rw [q5.1] at HT
    clear h hf hP PAN hh hm HSL hlk
    generalize le (tk b p 4) = N at *
    generalize siz f.shape = Z at *
    go_enter Try.func76, Try.ntmps76
    go_wp2_with (first | (go_at_call 63; with_reducible refine HN.out.mono ?_; rintro e w1 ⟨rfl, c1, c2, H1⟩) | (go_at_call 39; with_reducible refine (HL.out _).mono ?_; rintro e wl ⟨rfl, rfl⟩) | (go_at_call 65; with_reducible refine (HT.out _ H1).mono ?_; rintro e w2 ⟨a2, k2, rfl, c3, c4, c5, H2⟩) | (go_at_call 77; with_reducible refine (HCK.out _ _ H2).mono ?_; rintro e w4 ⟨ch, rfl, HF⟩))
    exact ⟨rfl, HF.out⟩
  by_cases q6 : f.shape.bsum = true ∧ le (tk b (p + 4 + m) 4) ≠ sm (tk b (p + 4) m)
  · have hh : blockF b most f.shape began p out = .bad (p + 4 + m) 44 := by unfold blockF; rw [if_neg q1, if_neg q2, hm, if_neg q3, if_neg (by unfold bs; rw [if_pos q6.1]; have hq : ¬ b.length < p + 4 + m + 4 := fun hx => q5 ⟨q6.1, hx⟩; omega), if_pos q6]
    have HCK : Hid (∀ v V, Hid (Cut D b (p + 4) m v V ∧ Twx D rb g o c b most (p + 4 + m) out K w fb f V) → Calls Try.prog 77 #[.pointer (some ⟨rb, 0, none⟩), v, .int .i64 44] V fun e w2 => ∃ ch, e = .panicked ch ∧ Hid (P (.panicked ch) w2)) := by
      intro v V hV
      refine (rcheck_bad hV.out.2.1 v _ (HSL.out _ _ hV.out.1 hV.out.2.1) 44 (by have hq : ¬ b.length < p + 4 + m + 4 := fun hx => q5 ⟨q6.1, hx⟩; omega) q6.2).mono ?_
      rintro e w2 ⟨rfl, h1⟩
      exact ⟨_, rfl, PAN.out _ _ _ _ hh rfl (hV.out.2.2.2.trans (h1.mono (fun k hk => .inl (.inl hk))))⟩
    rw [q6.1] at HT
    clear h hf hP PAN hh hm HSL hlk q5
    generalize le (tk b p 4) = N at *
    generalize siz f.shape = Z at *
    go_enter Try.func76, Try.ntmps76
    go_wp2_with (first | (go_at_call 63; with_reducible refine HN.out.mono ?_; rintro e w1 ⟨rfl, c1, c2, H1⟩) | (go_at_call 39; with_reducible refine (HL.out _).mono ?_; rintro e wl ⟨rfl, rfl⟩) | (go_at_call 65; with_reducible refine (HT.out _ H1).mono ?_; rintro e w2 ⟨a2, k2, rfl, c3, c4, c5, H2⟩) | (go_at_call 77; with_reducible refine (HCK.out _ _ H2).mono ?_; rintro e w4 ⟨ch, rfl, HF⟩))
    exact ⟨rfl, HF.out⟩
  -- behind the sum
  obtain ⟨p', hp'⟩ : ∃ p', p + 4 + m + bs f.shape = p' := ⟨_, rfl⟩
  have hpb : p' ≤ b.length := by
    rw [← hp']; unfold bs; split
    · rename_i hb; by_cases hx : b.length < p + 4 + m + 4
      · exact absurd ⟨hb, hx⟩ q5
      · omega
    · omega
  have hpre : blockF b most f.shape began p out = if 2147483648 ≤ le (tk b p 4) then (if most - out.length < m then .bad (p + 4) 32 else .ok p' (out ++ tk b (p + 4) m) true) else (if (dec (tk b (p + 4) m) (ahd f.shape began out) ((min (siz f.shape) (most - out.length) : Nat) : Int)).2.2 ≠ 0 then .bad (p + 4 + (dec (tk b (p + 4) m) (ahd f.shape began out) ((min (siz f.shape) (most - out.length) : Nat) : Int)).2.1) (dec (tk b (p + 4) m) (ahd f.shape began out) ((min (siz f.shape) (most - out.length) : Nat) : Int)).2.2 else .ok p' (out ++ (dec (tk b (p + 4) m) (ahd f.shape began out) ((min (siz f.shape) (most - out.length) : Nat) : Int)).1) false) := by
    unfold blockF
    rw [if_neg q1, if_neg q2, hm, if_neg q3, hp', if_neg (by omega), if_neg q6]
  have UPD : Hid (∀ v V, Cut D b (p + 4) m v V → Twx D rb g o c b most p' out K w fb f V → ∃ x8, (V.setCell ⟨fb, 9, none⟩ (.int .i64 ((f.blocks + 1 : Nat) : Int))).cell? ⟨fb, 10, none⟩ = some (.int .i64 f.plain) ∧ (V.setCell ⟨fb, 9, none⟩ (.int .i64 ((f.blocks + 1 : Nat) : Int))).frozen? ⟨fb, 10, none⟩ = false ∧ (V.setCell ⟨fb, 9, none⟩ (.int .i64 ((f.blocks + 1 : Nat) : Int))).cell? ⟨fb, 4, none⟩ = some (.int .i64 f.shape.block) ∧ (V.setCell ⟨fb, 9, none⟩ (.int .i64 ((f.blocks + 1 : Nat) : Int))).cell? ⟨fb, 5, none⟩ = some (.bool f.shape.alone) ∧ (V.setCell ⟨fb, 9, none⟩ (.int .i64 ((f.blocks + 1 : Nat) : Int))).cell? ⟨fb, 6, none⟩ = some (.bool f.shape.bsum) ∧ (V.setCell ⟨fb, 9, none⟩ (.int .i64 ((f.blocks + 1 : Nat) : Int))).cell? ⟨fb, 7, none⟩ = some (.bool f.shape.csum) ∧ (V.setCell ⟨fb, 9, none⟩ (.int .i64 ((f.blocks + 1 : Nat) : Int))).cell? ⟨fb, 8, none⟩ = some (.bool f.shape.csize) ∧ x8 = 0 ∧ Hid (Sl (fun k => D ≤ k) v (tk b (p + 4) m) (V.setCell ⟨fb, 9, none⟩ (.int .i64 ((f.blocks + 1 : Nat) : Int))) ∧ Twx D rb g o c b most p' out K w fb { f with blocks := f.blocks + 1 } (V.setCell ⟨fb, 9, none⟩ (.int .i64 ((f.blocks + 1 : Nat) : Int)))) ∧ Hid (Sl (fun k => D ≤ k) v (tk b (p + 4) m) ((V.setCell ⟨fb, 9, none⟩ (.int .i64 ((f.blocks + 1 : Nat) : Int))).setCell ⟨fb, 10, none⟩ (.int .i64 ((f.plain + 1 : Nat) : Int))) ∧ Twx D rb g o c b most p' out K w fb { f with blocks := f.blocks + 1, plain := f.plain + 1 } ((V.setCell ⟨fb, 9, none⟩ (.int .i64 ((f.blocks + 1 : Nat) : Int))).setCell ⟨fb, 10, none⟩ (.int .i64 ((f.plain + 1 : Nat) : Int))))) := by
    intro v V h1 h2
    obtain ⟨_, _, _, _, _, h3⟩ := h1
    obtain ⟨k1, k2, k3, k4, k5⟩ := FB.keepRI f h2.1 h2.2.1 hfr hKf hDf 9 _ (.int .i64 ((f.blocks + 1 : Nat) : Int)) { f with blocks := f.blocks + 1 } rfl rfl
    obtain ⟨j1, j2, j3, j4, j5⟩ := FB.keepRI _ k3 k4 hfr hKf hDf 10 _ (.int .i64 ((f.plain + 1 : Nat) : Int)) { f with blocks := f.blocks + 1, plain := f.plain + 1 } rfl rfl
    have hk5 := k5.mono (Y := fun k => k = rb ∨ k = fb ∨ ¬ K k) (fun k hk => .inl (by rcases hk with hk | hk; exact .inl hk; exact .inr (.inl hk)))
    have hj5 := j5.mono (Y := fun k => k = rb ∨ k = fb ∨ ¬ K k) (fun k hk => .inl (by rcases hk with hk | hk; exact .inl hk; exact .inr (.inl hk)))
    have hdd : ∀ k, (k = rb ∨ k = fb) → D ≤ k := fun k hk => by
      have := h2.1.dr
      rcases hk with hk | hk <;> omega
    have s1 := h3.kept k5 hdd
    exact ⟨0, j1, j2, (row_cell k4 4 _ rfl).1, (row_cell k4 5 _ rfl).1, (row_cell k4 6 _ rfl).1, (row_cell k4 7 _ rfl).1, (row_cell k4 8 _ rfl).1, rfl, ⟨s1, k3, k4, h2.2.2.trans hk5⟩, ⟨s1.kept j5 hdd, j3, j4, (h2.2.2.trans hk5).trans hj5⟩⟩
  have HCK : Hid (f.shape.bsum = true → ∀ v V, Hid (Cut D b (p + 4) m v V ∧ Twx D rb g o c b most (p + 4 + m) out K w fb f V) → Calls Try.prog 77 #[.pointer (some ⟨rb, 0, none⟩), v, .int .i64 44] V fun e w3 => (∃ r, e = .returned r) ∧ w3.cell? ⟨fb, 9, none⟩ = some (.int .i64 f.blocks) ∧ w3.frozen? ⟨fb, 9, none⟩ = false ∧ Hid (Cut D b (p + 4) m v w3 ∧ Twx D rb g o c b most p' out K w fb f w3)) := by
    intro hbs v V hV
    have hp4 : p + 4 + m + 4 = p' := by rw [← hp']; unfold bs; rw [if_pos hbs]
    refine (rcheck_ok hV.out.2.1 v _ (HSL.out _ _ hV.out.1 hV.out.2.1) 44 (by omega) (by
      by_cases hx : le (tk b (p + 4 + m) 4) = sm (tk b (p + 4) m)
      · exact hx
      · exact absurd ⟨hbs, hx⟩ q6)).mono ?_
    rintro e w3 ⟨hr, h1, h2⟩
    rw [hp4] at h1
    have h4 := hV.out.2.2.1.kept h2 hfr
    obtain ⟨a9, k9, e9, l9, m9, s9⟩ := hV.out.1
    exact ⟨hr, (row_cell h4 9 _ rfl).1, (row_cell h4 9 _ rfl).2, ⟨a9, k9, e9, l9, m9, s9.kept h2 (fun k hk => by subst hk; exact h1.dr)⟩, h1, h4, hV.out.2.2.2.trans (h2.mono (fun k hk => .inl (.inl hk)))⟩
  have HNB : Hid (f.shape.bsum = false → p + 4 + m = p') := fun hbs => by rw [← hp']; unfold bs; rw [if_neg (by rw [hbs]; decide)]; rfl
  have hzb : (f.blocks : Int) + 1 = ((f.blocks + 1 : Nat) : Int) := by omega
  have hzp : (f.plain : Int) + 1 = ((f.plain + 1 : Nat) : Int) := by omega
  clear HSL q5 q6 hp'
  -- what is left behind Blocks++
  have hkf : ¬ (fb = rb ∨ ¬ K fb) := fun hx => by rcases hx with hx | hx; exact hfr hx; exact hx hKf
  have TPB : Hid (2147483648 ≤ le (tk b p 4) → most - out.length < m → ∀ v V, Hid (Sl (fun k => D ≤ k) v (tk b (p + 4) m) V ∧ Twx D rb g o c b most p' out K w fb { f with blocks := f.blocks + 1, plain := f.plain + 1 } V) → Calls Try.prog 93 #[.pointer (some ⟨rb, 0, none⟩), v, .int .i64 ((p + 4 : Nat) : Int)] V fun e w2 => ∃ ch, e = .panicked ch ∧ Hid (P (.panicked ch) w2)) := by
    intro q7 q8 v V hV
    rw [if_pos q7, if_pos q8] at hpre
    have hDV : D ≤ V.heap.size := by have := hV.out.2.1.lt rb hV.out.2.1.kr; have := hV.out.2.1.dr; omega
    refine (rtakePlain_bad hV.out.2.1 v _ (hV.out.1.mono (fun k hk => Nat.le_trans hDV hk)) (p + 4) (by rw [hlk]; omega) (by rw [hlk]; omega)).mono ?_
    rintro e w2 ⟨rfl, h1⟩
    exact ⟨_, rfl, PAN.out _ _ _ _ hpre rfl (hV.out.2.2.2.trans h1.any)⟩
  have TPO : Hid (2147483648 ≤ le (tk b p 4) → ¬ most - out.length < m → ∀ v V, Hid (Sl (fun k => D ≤ k) v (tk b (p + 4) m) V ∧ Twx D rb g o c b most p' out K w fb { f with blocks := f.blocks + 1, plain := f.plain + 1 } V) → Calls Try.prog 93 #[.pointer (some ⟨rb, 0, none⟩), v, .int .i64 ((p + 4 : Nat) : Int)] V fun e w2 => (∃ r, e = .returned r) ∧ Hid (P (.returned (.bool true)) w2)) := by
    intro q7 q8 v V hV
    rw [if_pos q7, if_neg q8] at hpre
    have hDV : D ≤ V.heap.size := by have := hV.out.2.1.lt rb hV.out.2.1.kr; have := hV.out.2.1.dr; omega
    refine (rtakePlain_ok hV.out.2.1 v _ (hV.out.1.mono (fun k hk => Nat.le_trans hDV hk)) (p + 4) (by rw [hlk]; omega)).mono ?_
    rintro e w2 ⟨hr, h1, h2⟩
    refine ⟨hr, ?_⟩
    show P _ _
    rw [hP, hpre]
    exact ⟨hV.out.2.2.2.trans (h2.mono (fun k hk => .inl (by rcases hk with hk | hk; exact .inl hk; exact .inr (.inr hk)))), rfl, h1, hV.out.2.2.1.kept h2 hkf⟩
  obtain ⟨r, hr⟩ : ∃ r, r = dec (tk b (p + 4) m) (ahd f.shape began out) ((min (siz f.shape) (most - out.length) : Nat) : Int) := ⟨_, rfl⟩
  rw [← hr] at hpre
  have UNP : ∀ v V, Hid (Sl (fun k => D ≤ k) v (tk b (p + 4) m) V ∧ Twx D rb g o c b most p' out K w fb { f with blocks := f.blocks + 1 } V) → Calls Try.prog 94 #[.pointer (some ⟨rb, 0, none⟩), v, .int .i64 ((p + 4 : Nat) : Int), .agg #[.int .i64 f.shape.block, .bool f.shape.alone, .bool f.shape.bsum, .bool f.shape.csum, .bool f.shape.csize], .int .i64 began] V (Unp D rb g o c b most p' out K V (p + 4) r) := by
    intro v V hV
    have hDV : D ≤ V.heap.size := by have := hV.out.2.1.lt rb hV.out.2.1.kr; have := hV.out.2.1.dr; omega
    rw [hr]
    exact runpack_any hV.out.2.1 v _ (hV.out.1.mono (fun k hk => Nat.le_trans hDV hk)) (p + 4) f.shape hs1 hs2 began hbg (by rw [hlk]; omega) (by omega)
  have UNO : Hid (¬ 2147483648 ≤ le (tk b p 4) → r.2.2 = 0 → ∀ v V, Hid (Sl (fun k => D ≤ k) v (tk b (p + 4) m) V ∧ Twx D rb g o c b most p' out K w fb { f with blocks := f.blocks + 1 } V) → Calls Try.prog 94 #[.pointer (some ⟨rb, 0, none⟩), v, .int .i64 ((p + 4 : Nat) : Int), .agg #[.int .i64 f.shape.block, .bool f.shape.alone, .bool f.shape.bsum, .bool f.shape.csum, .bool f.shape.csize], .int .i64 began] V fun e w2 => (∃ r, e = .returned r) ∧ Hid (P (.returned (.bool true)) w2)) := by
    intro q7 q9 v V hV
    rw [if_neg q7, if_neg (by omega)] at hpre
    refine (UNP v V hV).mono ?_
    intro e w2 h1
    unfold Unp at h1
    rw [if_pos q9] at h1
    refine ⟨h1.1, ?_⟩
    show P _ _
    rw [hP, hpre]
    exact ⟨hV.out.2.2.2.trans (h1.2.2.mono (fun k hk => .inl (by rcases hk with hk | hk; exact .inl hk; exact .inr (.inr hk)))), rfl, h1.2.1, hV.out.2.2.1.kept h1.2.2 hkf⟩
  have UNB : Hid (¬ 2147483648 ≤ le (tk b p 4) → ¬ r.2.2 = 0 → ∀ v V, Hid (Sl (fun k => D ≤ k) v (tk b (p + 4) m) V ∧ Twx D rb g o c b most p' out K w fb { f with blocks := f.blocks + 1 } V) → Calls Try.prog 94 #[.pointer (some ⟨rb, 0, none⟩), v, .int .i64 ((p + 4 : Nat) : Int), .agg #[.int .i64 f.shape.block, .bool f.shape.alone, .bool f.shape.bsum, .bool f.shape.csum, .bool f.shape.csize], .int .i64 began] V fun e w2 => ∃ ch, e = .panicked ch ∧ Hid (P (.panicked ch) w2)) := by
    intro q7 q9 v V hV
    rw [if_neg q7, if_pos q9] at hpre
    refine (UNP v V hV).mono ?_
    intro e w2 h1
    unfold Unp at h1
    rw [if_neg q9] at h1
    obtain ⟨rfl, h2⟩ := h1
    exact ⟨_, rfl, PAN.out _ _ _ _ hpre rfl (hV.out.2.2.2.trans (h2.mono (fun k hk => .inl (by rcases hk with hk | hk; exact .inl hk; exact .inr (.inr hk)))))⟩
  have hzq : (p : Int) + 4 = ((p + 4 : Nat) : Int) := by omega
  clear h hf hP PAN hpre hm hlk UNP hr
  generalize le (tk b p 4) = N at *
  generalize siz f.shape = Z at *
  generalize p + 4 = p4 at *
  generalize f.blocks + 1 = B1 at *
  generalize f.plain + 1 = L1 at *
  obtain ⟨zb, hzb1⟩ : ∃ zb, f.shape.bsum = zb := ⟨_, rfl⟩
  simp only [hzb1] at HT
  have HZB : Hid (f.shape.bsum = zb) := hzb1
  clear hzb1
  go_enter Try.func76, Try.ntmps76
  go_upto_if 44 with (first | (go_at_call 63; with_reducible refine HN.out.mono ?_; rintro e w1 ⟨rfl, c1, c2, H1⟩) | (go_at_call 39; with_reducible refine (HL.out _).mono ?_; rintro e wl ⟨rfl, rfl⟩) | (go_at_call 65; with_reducible refine (HT.out _ H1).mono ?_; rintro e w2 ⟨a2, k2, rfl, c3, c4, c5, H2⟩))
  go_cut [11] (fun v wx => ∃ a2 k2, v = .slice a2 m k2 ∧ wx.cell? ⟨fb, 9, none⟩ = some (.int .i64 f.blocks) ∧ wx.frozen? ⟨fb, 9, none⟩ = false ∧ Hid (Cut D b p4 m v wx ∧ Twx D rb g o c b most p' out K w fb f wx))
  case first =>
    cases zb with
    | true =>
      have HCK' : Hid (∀ v V, Hid (Cut D b p4 m v V ∧ Twx D rb g o c b most (p4 + m) out K w fb f V) → Calls Try.prog 77 #[.pointer (some ⟨rb, 0, none⟩), v, .int .i64 44] V fun e w3 => (∃ r, e = .returned r) ∧ w3.cell? ⟨fb, 9, none⟩ = some (.int .i64 f.blocks) ∧ w3.frozen? ⟨fb, 9, none⟩ = false ∧ Hid (Cut D b p4 m v w3 ∧ Twx D rb g o c b most p' out K w fb f w3)) := HCK.out HZB.out
      clear TPB TPO UNO UNB UPD HCK HNB
      go_wp2_with (first | (go_at_call 77; with_reducible refine (HCK'.out _ _ H2).mono ?_; rintro e w3 ⟨⟨r3, rfl⟩, c6, c7, H3⟩))
      go_meet
      exact ⟨_, _, rfl, c6, c7, H3.out⟩
    | false =>
      have H3 : Hid (Cut D b p4 m (.slice a2 m k2) w2 ∧ Twx D rb g o c b most p' out K w fb f w2) := by have := H2.out; rw [HNB.out HZB.out] at this; exact this
      clear TPB TPO UNO UNB UPD HCK HNB
      go_wp2_with fail
      go_meet
      exact ⟨_, _, rfl, c4, c5, H3.out⟩
  case rest =>
    obtain ⟨a3, k3, rfl, c6, c7, H3⟩ := hcut
    obtain ⟨x8, d1, d2, d3, d4, d5, d6, d7, d8, H4, H5⟩ := UPD.out _ _ H3.out.1 H3.out.2
    clear UPD HCK HNB HT HN HL H1 H2 HZB
    by_cases q7 : 2147483648 ≤ N
    · have hand' : (bits .and .u64 ((N : Nat) : Int) 2147483648 != 0) = true := by rw [hand]; exact decide_eq_true q7
      clear hand
      by_cases q8 : most - out.length < m
      · have HTP : Hid (∀ v V, Hid (Sl (fun k => D ≤ k) v (tk b p4 m) V ∧ Twx D rb g o c b most p' out K w fb { f with blocks := B1, plain := L1 } V) → Calls Try.prog 93 #[.pointer (some ⟨rb, 0, none⟩), v, .int .i64 (p4 : Int)] V fun e w2 => ∃ ch, e = .panicked ch ∧ Hid (P (.panicked ch) w2)) := TPB.out q7 q8
        clear TPB TPO UNO UNB
        go_wp2_with (first | (go_at_call 93; with_reducible refine (HTP.out _ _ H5).mono ?_; rintro e w4 ⟨ch, rfl, HF⟩))
        exact ⟨rfl, HF.out⟩
      · have HTP : Hid (∀ v V, Hid (Sl (fun k => D ≤ k) v (tk b p4 m) V ∧ Twx D rb g o c b most p' out K w fb { f with blocks := B1, plain := L1 } V) → Calls Try.prog 93 #[.pointer (some ⟨rb, 0, none⟩), v, .int .i64 (p4 : Int)] V fun e w2 => (∃ r, e = .returned r) ∧ Hid (P (.returned (.bool true)) w2)) := TPO.out q7 q8
        clear TPB TPO UNO UNB
        go_wp2_with (first | (go_at_call 93; with_reducible refine (HTP.out _ _ H5).mono ?_; rintro e w4 ⟨⟨r4, rfl⟩, HF⟩))
        exact HF.out
    · have hand' : (bits .and .u64 ((N : Nat) : Int) 2147483648 != 0) = false := by rw [hand]; exact decide_eq_false q7
      clear hand
      by_cases q9 : r.2.2 = 0
      · have HTP : Hid (∀ v V, Hid (Sl (fun k => D ≤ k) v (tk b p4 m) V ∧ Twx D rb g o c b most p' out K w fb { f with blocks := B1 } V) → Calls Try.prog 94 #[.pointer (some ⟨rb, 0, none⟩), v, .int .i64 (p4 : Int), .agg #[.int .i64 f.shape.block, .bool f.shape.alone, .bool f.shape.bsum, .bool f.shape.csum, .bool f.shape.csize], .int .i64 began] V fun e w2 => (∃ r, e = .returned r) ∧ Hid (P (.returned (.bool true)) w2)) := UNO.out q7 q9
        clear TPB TPO UNO UNB q9
        go_wp2_with (first | (go_at_call 94; with_reducible refine (HTP.out _ _ H4).mono ?_; rintro e w4 ⟨⟨r4, rfl⟩, HF⟩))
        exact HF.out
      · have HTP : Hid (∀ v V, Hid (Sl (fun k => D ≤ k) v (tk b p4 m) V ∧ Twx D rb g o c b most p' out K w fb { f with blocks := B1 } V) → Calls Try.prog 94 #[.pointer (some ⟨rb, 0, none⟩), v, .int .i64 (p4 : Int), .agg #[.int .i64 f.shape.block, .bool f.shape.alone, .bool f.shape.bsum, .bool f.shape.csum, .bool f.shape.csize], .int .i64 began] V fun e w2 => ∃ ch, e = .panicked ch ∧ Hid (P (.panicked ch) w2)) := UNB.out q7 q9
        clear TPB TPO UNO UNB q9
        go_wp2_with (first | (go_at_call 94; with_reducible refine (HTP.out _ _ H4).mono ?_; rintro e w4 ⟨ch, rfl, HF⟩))
        exact ⟨rfl, HF.out⟩
end Go.Proofs.Ytdeefemeiggolaa
