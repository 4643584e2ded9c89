import Derived.Test.YtkpkiajehclbhaaVaw
namespace Go.Proofs.Ytkpkiajehclbhaa
open Go.RowKit
set_option linter.unusedVariables false
variable {ls : List Nat}
theorem wdP_lt (i : Nat) : (wdP ls i).1 < 2 ^ ls.getD i 0 := by
  unfold wdP
  split
  · exact Nat.two_pow_pos _
  · exact rev_lt _ _
/-! ### BitsCodes: the document's words, as bits -/
theorem bl_eq (a b n : Nat) : bl a n = bl b n ↔ a % 2 ^ n = b % 2 ^ n := by
  induction n generalizing a b with
  | zero => simp [bl, Nat.mod_one]
  | succ n ih =>
    rw [bl, bl, List.cons.injEq, ih]
    have e : ∀ x : Nat, x % 2 ^ (n + 1) = x % 2 + 2 * (x / 2 % 2 ^ n) := fun x => by rw [Nat.pow_succ, Nat.mul_comm, Nat.mod_mul]
    rw [e a, e b]
    constructor
    · rintro ⟨h1, h2⟩
      have := congrArg BitVec.toNat h1
      simp only [BitVec.toNat_ofNat] at this
      omega
    · intro h
      have h1 : a % 2 = b % 2 := by omega
      exact ⟨by rw [h1], by omega⟩
/-- Bits of the word, as the document takes them out of the number. -/
theorem rev_bit (n c j : Nat) (hj : j < n) : rev n c / 2 ^ j % 2 = c / 2 ^ (n - 1 - j) % 2 := by
  have h := rev_test n c j hj
  rw [Nat.testBit_eq_decide_div_mod_eq, Nat.testBit_eq_decide_div_mod_eq, decide_eq_decide] at h
  have h1 : rev n c / 2 ^ j % 2 < 2 := Nat.mod_lt _ (by decide)
  have h2 : c / 2 ^ (n - 1 - j) % 2 < 2 := Nat.mod_lt _ (by decide)
  omega
/-- The word of a symbol, as bits. -/
def wb (ls : List Nat) (i : Nat) : List By := bl (wdP ls i).1 (ls.getD i 0)
theorem wb_length (i : Nat) : (wb ls i).length = ls.getD i 0 := bl_length _ _
theorem wb_nil (i : Nat) (h : ls.getD i 0 = 0) : wb ls i = [] := by unfold wb; rw [h]; rfl
/-- The number that grows: code and was, ahead of symbol i at length n. -/
def CwI (ls : List Nat) (n i code was : Nat) : Prop := was ≤ n ∧ code * 2 ^ (n - was) = nm ls n + (ls.take i).count n
theorem CwI.start (ls : List Nat) : CwI ls 1 0 0 0 := by
  refine ⟨by decide, ?_⟩
  simp [nm, ct]
theorem CwI.skip {n i code was : Nat} (h : CwI ls n i code was) (hi : i < ls.length) (hn : ls.getD i 0 ≠ n) : CwI ls n (i + 1) code was := by
  refine ⟨h.1, ?_⟩
  rw [count_take_succ ls i n hi, if_neg hn, Nat.add_zero]
  exact h.2
theorem CwI.hit {n i code was : Nat} (h : CwI ls n i code was) (hi : i < ls.length) (hn : ls.getD i 0 = n) : code * 2 ^ (n - was) = cd ls i ∧ CwI ls n (i + 1) (cd ls i + 1) n := by
  have e : code * 2 ^ (n - was) = cd ls i := by rw [h.2, cd, rk, hn]
  refine ⟨e, Nat.le_refl _, ?_⟩
  rw [count_take_succ ls i n hi, if_pos hn, ← Nat.add_assoc, ← h.2, e]
  simp
theorem CwI.next {n code was : Nat} (h : CwI ls n ls.length code was) (hn : n ≠ 0) : CwI ls (n + 1) 0 code was := by
  refine ⟨by have := h.1; omega, ?_⟩
  have e := h.2
  rw [List.take_length, ← ct_pos ls n hn] at e
  rw [show n + 1 - was = n - was + 1 by have := h.1; omega, Nat.pow_succ, ← Nat.mul_assoc, e, nm]
  simp; omega
theorem CwI.le {n i code was : Nat} (h : CwI ls n i code was) (hk : Cod ls) (hn : 1 ≤ n) (hn2 : n ≤ 15) : code ≤ 32768 ∧ code * 2 ^ (n - was) ≤ 32768 := by
  have h1 := nm_le ls n hn2 hk.fit
  have h2 : (ls.take i).count n ≤ ls.count n := List.Sublist.count_le _ (List.take_sublist _ _)
  rw [← ct_pos ls n (by omega)] at h2
  have h3 : (2 : Nat) ^ n ≤ 2 ^ 15 := Nat.pow_le_pow_right (by decide) hn2
  have h4 : code * 1 ≤ code * 2 ^ (n - was) := Nat.mul_le_mul_left _ (Nat.two_pow_pos _)
  have := h.2
  omega
/-- What the document's Read answers. -/
def Lie (ls : List Nat) (R N i : Nat) : Prop := i < ls.length ∧ ls.getD i 0 ≠ 0 ∧ ls.getD i 0 ≤ N ∧ bl R (ls.getD i 0) = wb ls i
def Shr (ls : List Nat) (R N i : Nat) : Prop := i < ls.length ∧ ls.getD i 0 ≠ 0 ∧ N ≤ ls.getD i 0 ∧ (wb ls i).take N = bl R N
def SRaw (ls : List Nat) (R N s n h : Nat) : Prop :=
  (h = 0 ∧ n = ls.getD s 0 ∧ Lie ls R N s) ∨ (s = 0 ∧ n = 0 ∧ (∀ i, ¬ Lie ls R N i) ∧ ((h = 50 ∧ ∃ i, Shr ls R N i) ∨ (h = 52 ∧ ∀ i, ¬ Shr ls R N i)))
theorem lie_hits (hk : Cod ls) {R N i : Nat} (h : Lie ls R N i) : Hits ls (rev 15 R) i := by
  obtain ⟨h1, h2, h3, h4⟩ := h
  rw [hits_iff hk R i h1 h2]
  have := (bl_eq _ _ _).1 h4
  rw [this, Nat.mod_eq_of_lt (wdP_lt i)]
  unfold wdP
  rw [if_neg h2]
theorem hits_word (hk : Cod ls) {R i : Nat} (h : Hits ls (rev 15 R) i) : R % 2 ^ ls.getD i 0 = (wdP ls i).1 := by
  have := (hits_iff hk R i h.1 h.2.1).1 h
  rw [this]
  unfold wdP
  rw [if_neg h.2.1]
theorem hits_lie (hk : Cod ls) {R N i : Nat} (h : Hits ls (rev 15 R) i) (hN : ls.getD i 0 ≤ N) : Lie ls R N i := by
  refine ⟨h.1, h.2.1, hN, ?_⟩
  unfold wb
  rw [bl_eq, hits_word hk h, Nat.mod_eq_of_lt (wdP_lt i)]
theorem shr_iff (hk : Cod ls) {R N i : Nat} (hR : R < 2 ^ N) (h : Shr ls R N i) : (wdP ls i).1 % 2 ^ N = R := by
  obtain ⟨h1, h2, h3, h4⟩ := h
  unfold wb at h4
  rw [bl_take _ _ _ h3, bl_eq, Nat.mod_eq_of_lt hR] at h4
  exact h4
/-- Both read the same. -/
theorem raw_found (hk : Cod ls) {R N i s n h : Nat} (hi : Hits ls (rev 15 R) i) (hN : ls.getD i 0 ≤ N) (hs : SRaw ls R N s n h) : s = i ∧ n = ls.getD i 0 ∧ h = 0 := by
  rcases hs with ⟨rfl, rfl, h1⟩ | ⟨_, _, h1, _⟩
  · have := hk.hits_uniq (lie_hits hk h1) hi
    subst this
    exact ⟨rfl, rfl, rfl⟩
  · exact absurd (hits_lie hk hi hN) (h1 i)
theorem raw_short (hk : Cod ls) {R N i s n h : Nat} (hR : R < 2 ^ N) (hi : Hits ls (rev 15 R) i) (hN : N < ls.getD i 0) (hs : SRaw ls R N s n h) : s = 0 ∧ n = 0 ∧ h = 50 := by
  rcases hs with ⟨rfl, rfl, h1⟩ | ⟨rfl, rfl, h1, ⟨rfl, _⟩ | ⟨rfl, h2⟩⟩
  · have := hk.hits_uniq (lie_hits hk h1) hi
    subst this
    have := h1.2.2.1
    omega
  · exact ⟨rfl, rfl, rfl⟩
  · refine absurd ⟨hi.1, hi.2.1, by omega, ?_⟩ (h2 i)
    unfold wb
    have hw := hits_word hk hi
    have hp : (2 : Nat) ^ N ≤ 2 ^ ls.getD i 0 := Nat.pow_le_pow_right (by decide) (by omega)
    rw [Nat.mod_eq_of_lt (by omega)] at hw
    rw [bl_take _ _ _ (by omega), bl_eq, ← hw]
theorem raw_none (hk : Cod ls) {R N s n h : Nat} (hR : R < 2 ^ N) (hp : Past ls (rev 15 R) 16) (hs : SRaw ls R N s n h) : s = 0 ∧ n = 0 ∧ h = 52 := by
  rcases hs with ⟨rfl, rfl, h1⟩ | ⟨rfl, rfl, h1, ⟨rfl, i, h2⟩ | ⟨rfl, h2⟩⟩
  · exact absurd (lie_hits hk h1) (hp.none hk _)
  · have h3 := shr_iff hk hR h2
    obtain ⟨a, b, c, _⟩ := h2
    unfold wdP at h3
    rw [if_neg b] at h3
    exact absurd h3 (hp.no_short hk hR i a b c)
  · exact ⟨rfl, rfl, rfl⟩
end Go.Proofs.Ytkpkiajehclbhaa

namespace Go.Proofs.Ytkpkiajehclbhaa
open Go.RowKit
set_option linter.unusedVariables false
/-! ### The document's sum and Code -/
def inR (zs : List Int) : Prop := ∀ (j : Nat) (x : Int), zs[j]? = some x → 0 ≤ x ∧ x ≤ 15
theorem kraft2 (zs : List Int) (h1 : 1 ≤ zs.length) (h2 : zs.length ≤ 320) (h3 : inR zs) : IsCode zs ↔ (0 < partsI zs ∧ partsI zs ≤ 32768) := by
  rw [kraft]
  obtain ⟨ls, rfl, hl1, hl2⟩ := toI_of zs (fun z hz => by
    obtain ⟨j, hj⟩ := List.mem_iff_getElem?.1 hz
    exact h3 j z hj)
  obtain ⟨k1, k2⟩ := partsI_toI ls hl2
  rw [k2, ← k1]
  constructor
  · rintro ⟨_, _, a, b⟩; exact ⟨a, b⟩
  · rintro ⟨a, b⟩; exact ⟨⟨h1, h2⟩, fun j x _ hx => h3 j x hx, a, b⟩
set_option maxHeartbeats 8000000 in
theorem ssum_any (w : World) (v : Value) (zs : List Int) (h : SlR RI (fun _ => False) v zs w) (hl : zs.length ≤ 320) (hr : inR zs) : Calls Try.prog 52 #[v] w fun e w' => e = .returned (.int .i64 (partsI zs)) ∧ w' = w := by
  obtain ⟨P, hP⟩ : ∃ P : Ending → World → Prop, P = fun e w' => e = .returned (.int .i64 (partsI zs)) ∧ w' = w := ⟨_, rfl⟩
  rw [← hP]
  have HS : Hid (SlR RI (fun _ => False) v zs w) := h
  obtain ⟨a, c, rfl, hc, hc2, hca⟩ := h.form
  have HF : Hid (P (.returned (.int .i64 (partsI zs))) w) := by
    show P _ _
    rw [hP]; exact ⟨rfl, rfl⟩
  have HR : Hid (inR zs) := hr
  clear hP h hr
  generalize hL : zs.length = L at *
  have hL' : Hid (zs.length = L) := hL
  clear hL
  go_enter Try.func52, Try.ntmps52
  go_wp2
  go_loopg [3, 4] L (fun kx s i wr => ∃ (I S : Nat), I ≤ L ∧ L - I ≤ kx ∧ s = .int .i64 S ∧ i = .int .i64 I ∧ wr = w ∧ Hid (S = partsI (zs.take I)))
  case atStart => exact ⟨0, 0, by omega, by omega, rfl, rfl, rfl, (by show 0 = partsI (zs.take 0); simp [partsI])⟩
  case round =>
    obtain ⟨I, S, hI, hkx, rfl, rfl, rfl, HI⟩ := hrel
    by_cases hlt : I < L
    · have hlt' : I < zs.length := by rw [hL'.out]; exact hlt
      obtain ⟨g, o, rfl, _, hcell⟩ := ri_at HS.out I zs[I] (List.getElem?_eq_getElem hlt')
      have hz : (I : Int) < (L : Int) := by omega
      have hxx : zs[I]? = some zs[I] := List.getElem?_eq_getElem hlt'
      generalize zs[I] = x at *
      obtain ⟨hx0, hx1⟩ := HR.out I x hxx
      have hst := (partsI_step zs I x hxx).1
      have hS : S ≤ 16384 * 320 := by
        have := (partsI_le (zs.take I)).1
        rw [List.length_take] at this
        have := HI.out
        omega
      rw [← HI.out] at hst
      by_cases hp : 0 < x
      · obtain ⟨n, rfl⟩ : ∃ n : Nat, x = (n : Int) := ⟨x.toNat, by omega⟩
        have hn : n ≤ 15 := by omega
        obtain ⟨k, hk⟩ : ∃ k, k = 15 - n := ⟨_, rfl⟩
        have hki : (15 : Int) - (n : Int) = (k : Int) := by omega
        have hk15 : k ≤ 14 := by omega
        have hpr : prtI (n : Int) = 2 ^ k := by
          unfold prtI
          rw [if_pos ⟨hp, hx1⟩, Int.toNat_natCast, ← hk]
        rw [hpr] at hst
        have hpw : (2 : Nat) ^ k ≤ 2 ^ 14 := Nat.pow_le_pow_right (by decide) hk15
        have HN : Hid (S + 2 ^ k = partsI (zs.take (I + 1))) := hst.symm
        have hT : ((2 : Int) ^ k) = ((2 ^ k : Nat) : Int) := by push_cast; rfl
        clear hst hpr HI HR HS HF hk hxx
        generalize 2 ^ k = T at *
        go_wp2_with fail
        go_roundg (L - (I + 1))
        case measure => omega
        case rel => exact ⟨I + 1, S + T, by omega, by omega, by first | rfl | (congr 1), by first | rfl | (congr 1), rfl, HN⟩
      · have hx : x = 0 := by omega
        subst hx
        have e0 : prtI 0 = 0 := by decide
        rw [e0] at hst
        have HN : Hid (S = partsI (zs.take (I + 1))) := hst.symm
        clear hst HI HR HS HF hxx
        go_wp2_with fail
        go_roundg (L - (I + 1))
        case measure => omega
        case rel => exact ⟨I + 1, S, by omega, by omega, rfl, by first | rfl | (congr 1), rfl, HN⟩
    · obtain rfl : I = L := by omega
      have hz : ¬ (I : Int) < (I : Int) := by omega
      have hS : S = partsI zs := by
        have := HI.out
        rw [List.take_of_length_le (by rw [hL'.out]; exact Nat.le_refl _)] at this
        exact this
      rw [← hS] at HF
      clear HI HS HR hS
      go_wp2_with fail
      exact HF.out
/-- What the document's Code answers. -/
def CodA (zs : List Int) (w : World) (e : Ending) (w' : World) : Prop := (∃ b q, e = .returned (.tuple #[.bool b, .bool q]) ∧ (b = true ↔ IsCode zs) ∧ (IsCode zs → q = decide (partsI zs = 32768))) ∧ w' = w
set_option maxHeartbeats 8000000 in
theorem scode_any (w : World) (v : Value) (zs : List Int) (h : SlR RI (fun _ => False) v zs w) (hl : zs.length ≤ 17592186043904) : Calls Try.prog 33 #[v] w (CodA zs w) := by
  obtain ⟨P, hP⟩ : ∃ P : Ending → World → Prop, P = CodA zs w := ⟨_, rfl⟩
  rw [← hP]
  have HS : Hid (SlR RI (fun _ => False) v zs w) := h
  obtain ⟨a, c, rfl, hc, hc2, hca⟩ := h.form
  have HP : Hid (P = CodA zs w) := hP
  have HNo : Hid (¬ IsCode zs → P (.returned (.tuple #[.bool false, .bool false])) w) := fun hn => by
    rw [hP]
    exact ⟨⟨false, false, rfl, by simp [hn], fun h => absurd h hn⟩, rfl⟩
  have HSum : Hid (zs.length ≤ 320 → inR zs → Calls Try.prog 52 #[.slice a zs.length c] w fun e w' => e = .returned (.int .i64 (partsI zs)) ∧ w' = w) := fun h1 h2 => ssum_any w _ zs h h1 h2
  clear hP h
  generalize hL : zs.length = L at *
  have hL' : Hid (zs.length = L) := hL
  clear hL
  by_cases hb : 1 ≤ L ∧ L ≤ 320
  · obtain ⟨hb1, hb2⟩ := hb
    have g1 : ¬ (L : Int) < 1 := by omega
    have g2 : ¬ (320 : Int) < (L : Int) := by omega
    go_enter Try.func33, Try.ntmps33
    go_wp2
    go_loopg [4] L (fun kx i wr => ∃ (I : Nat), I ≤ L ∧ L - I ≤ kx ∧ i = .int .i64 I ∧ wr = w ∧ Hid (∀ j x, j < I → zs[j]? = some x → 0 ≤ x ∧ x ≤ 15))
    case atStart => exact ⟨0, by omega, by omega, rfl, rfl, fun j x hj => by omega⟩
    case round =>
      obtain ⟨I, hI, hkx, rfl, rfl, HI⟩ := hrel
      by_cases hlt : I < L
      · have hlt' : I < zs.length := by rw [hL'.out]; exact hlt
        obtain ⟨g, o, rfl, _, hcell⟩ := ri_at HS.out I zs[I] (List.getElem?_eq_getElem hlt')
        have hz : (I : Int) < (L : Int) := by omega
        have hxx : zs[I]? = some zs[I] := List.getElem?_eq_getElem hlt'
        generalize zs[I] = x at *
        by_cases hx : 0 ≤ x ∧ x ≤ 15
        · have HN : Hid (∀ j y, j < I + 1 → zs[j]? = some y → 0 ≤ y ∧ y ≤ 15) := fun j y hj hy => by
            by_cases e : j = I
            · rw [e, hxx] at hy; injection hy with hy; subst hy; exact hx
            · exact HI.out j y (by omega) hy
          have h1 : ¬ x < 0 := by omega
          have h2 : ¬ 15 < x := by omega
          clear HI HS HP hxx HNo HSum
          go_wp2_with fail
          go_roundg (L - (I + 1))
          case measure => omega
          case rel => exact ⟨I + 1, by omega, by omega, by first | rfl | (congr 1), rfl, HN⟩
        · have HF : Hid (P (.returned (.tuple #[.bool false, .bool false])) wr) := HNo.out (fun hk => by
            have := ((kraft zs).1 hk).2.1 I x hlt' hxx
            exact hx this)
          clear HI HS HP hxx HNo HSum
          by_cases h1 : x < 0
          · go_wp2_with fail
            exact HF.out
          · have h2 : 15 < x := by omega
            go_wp2_with fail
            exact HF.out
      · obtain rfl : I = L := by omega
        have hin : inR zs := fun j x hx => HI.out j x (by have := (List.getElem?_eq_some_iff.1 hx).1; rw [hL'.out] at this; exact this) hx
        have HC : Hid (Calls Try.prog 52 #[.slice a I c] wr fun e w' => e = .returned (.int .i64 (partsI zs)) ∧ w' = wr) := HSum.out (by omega) hin
        have HF : Hid (∀ b q, (b = true ↔ 0 < partsI zs ∧ partsI zs ≤ 32768) → (q = decide (partsI zs = 32768)) → P (.returned (.tuple #[.bool b, .bool q])) wr) := fun b q h1 h2 => by
          rw [HP.out]
          have hk2 := kraft2 zs (by rw [hL'.out]; exact hb1) (by rw [hL'.out]; exact hb2) hin
          exact ⟨⟨b, q, rfl, by rw [h1, hk2], fun _ => h2⟩, rfl⟩
        have hz : ¬ (I : Int) < (I : Int) := by omega
        have hpl := (partsI_le zs).1
        rw [hL'.out] at hpl
        clear HI HS HP HNo HSum hin hL'
        generalize partsI zs = p at *
        by_cases h0 : 0 < p
        · have h0' : (0 : Int) < (p : Int) := by omega
          go_wp2_with (first | (go_at_call 52; (with_reducible refine HC.out.mono ?_); rintro e w1 ⟨rfl, rfl⟩))
          refine HF.out _ _ ?_ ?_
          · simp [h0]; omega
          · rw [Bool.eq_iff_iff]; simp; omega
        · have h0' : ¬ (0 : Int) < (p : Int) := by omega
          go_wp2_with (first | (go_at_call 52; (with_reducible refine HC.out.mono ?_); rintro e w1 ⟨rfl, rfl⟩))
          refine HF.out _ _ ?_ ?_
          · simp [h0]
          · rw [Bool.eq_iff_iff]; simp; omega
  · have HF : Hid (P (.returned (.tuple #[.bool false, .bool false])) w) := HNo.out (fun hk => hb (by have := ((kraft zs).1 hk).1; rw [hL'.out] at this; exact this))
    clear HS HP HNo HSum hL'
    by_cases h1 : L < 1
    · have g1 : (L : Int) < 1 := by omega
      go_enter Try.func33, Try.ntmps33
      go_wp2
      exact HF.out
    · have g1 : ¬ (L : Int) < 1 := by omega
      have g2 : (320 : Int) < (L : Int) := by omega
      go_enter Try.func33, Try.ntmps33
      go_wp2
      exact HF.out
end Go.Proofs.Ytkpkiajehclbhaa
