import Derived.Test.YtpjnbhflnbhnoaaGreatDoorWbm
import Derived.Test.YtpjnbhflnbhnoaaGreatDoorWbn
import Derived.Test.YtpjnbhflnbhnoaaGreatDoorWas
import Derived.Test.YtpjnbhflnbhnoaaGreatDoorWan
namespace Go.Proofs.YtpjnbhflnbhnoaaGreatDoor
open Go.RowKit
set_option linter.unusedVariables false
/-! ### Stored streams are read back -/
theorem shd_head (x n : Nat) (hn : n ≤ 65535) : shd x n = shead x n := by
  unfold shd shead
  have e1 : BitVec.ofNat 8 (65535 - n) = BitVec.ofNat 8 (255 - n % 256) := by
    apply BitVec.eq_of_toNat_eq
    simp only [BitVec.toNat_ofNat]
    omega
  have e2 : BitVec.ofNat 8 ((65535 - n) / 256) = BitVec.ofNat 8 (255 - n / 256) := by
    apply BitVec.eq_of_toNat_eq
    simp only [BitVec.toNat_ofNat]
    omega
  simp only [lows, List.cons_append, List.nil_append, e1, e2]
/-- The last block. -/
theorem stored_fin (most : Nat) (s : Sx) (x rest : List By) (hm : s.md = 0) (hn : x.length ≤ 65535) (hr : x.length ≤ most - s.out.length) :
    ∃ s', run most s (bt (shead 1 x.length ++ x ++ rest) 0) = (s', bt rest 0, 0) ∧ s'.out = s.out ++ x := by
  by_cases h0 : x.length = 0
  · obtain rfl : x = [] := List.eq_nil_of_length_eq_zero h0
    obtain ⟨s', h1, h2⟩ := stored_last most s rest hm
    exact ⟨s', by rw [List.append_nil]; exact h1, by rw [h2, List.append_nil]⟩
  · rw [List.append_assoc]
    have h1 := shead_run most 1 s x.length (x ++ rest) (.inr rfl) hm hn hr
    obtain ⟨r, hrr⟩ : ∃ r, r = shead 1 x.length ++ (x ++ rest) := ⟨_, rfl⟩
    have hlen : r.length = 5 + x.length + rest.length := by rw [hrr]; simp [shead]; omega
    rw [← hrr] at h1 ⊢
    have hd5 : r.drop 5 = x ++ rest := by rw [hrr]; rfl
    have hend : bt r (40 + 8 * x.length) = bt rest 0 := by
      rw [show 40 + 8 * x.length = 8 * (5 + x.length) by omega, bt_drop r (5 + x.length) (by omega), ← List.drop_drop, hd5, List.drop_left]
    rw [if_neg h0] at h1
    have h2 := run_ok (most := most) (by omega) (show stepR most s (bt r 0) = .ok ({ s with lst := decide (1 = 1), md := 1, sto := x.length }, bt r 40) from h1)
    obtain ⟨_, h3⟩ := bytes_run most r x.length 40 { s with lst := decide (1 = 1), md := 1, sto := x.length } rfl (by omega) (Nat.le_refl _) (by omega)
    have hlo : lows (le r / 2 ^ 40) x.length = x := by
      have := lows_tk r 5 x.length (by omega)
      rw [hd5, List.take_left] at this
      exact this.symm
    rw [hlo] at h3
    obtain ⟨z1, z2⟩ := alignR_bt r (40 + 8 * x.length) (by omega)
    have hu : up8 (40 + 8 * x.length) = 40 + 8 * x.length := by unfold up8; omega
    rw [hu] at z1
    have h4 := h3 rfl { s with lst := true, md := 3, sto := 0, out := s.out ++ x } (bt r (40 + 8 * x.length)) (by
      unfold endB
      rw [if_pos (by rfl), bindR_eq z1]; rfl)
    refine ⟨{ s with lst := true, md := 3, sto := 0, out := s.out ++ x }, ?_, rfl⟩
    rw [h2, h4, run_end rfl, hend]
theorem stP_run (most : Nat) (b rest : List By) (hb : b.length ≤ most) : ∀ i, 65535 * i ≤ b.length → ∃ s, run most ini (bt (stP b i ++ rest) 0) = run most s (bt rest 0) ∧ s.md = 0 ∧ s.out = b.take (65535 * i) := by
  intro i
  induction i generalizing rest with
  | zero => intro _; exact ⟨ini, by simp [stP], rfl, by simp [ini]⟩
  | succ i ih =>
    intro h
    obtain ⟨s, h1, h2, h3⟩ := ih (shd 0 65535 ++ (b.drop (65535 * i)).take 65535 ++ rest) (by omega)
    have hl : ((b.drop (65535 * i)).take 65535).length = 65535 := by rw [List.length_take, List.length_drop]; omega
    have hso : s.out.length = 65535 * i := by rw [h3, List.length_take]; omega
    obtain ⟨s', k1, k2, k3⟩ := stored_one most s ((b.drop (65535 * i)).take 65535) rest h2 (by omega) (by omega)
    rw [hl, ← shd_head 0 65535 (Nat.le_refl _)] at k1
    refine ⟨s', ?_, k2, ?_⟩
    · rw [stP, List.append_assoc, h1, k1]
    · rw [k3, h3, show 65535 * (i + 1) = 65535 * i + 65535 by omega, List.take_add]
theorem st_dec (b rest : List By) (mo : Nat) (hb : b.length ≤ mo) (hm : mo ≤ 4194304) : idec (stE b 1 ++ rest) mo = (b, (stE b 1).length, 0) := by
  have hN : 65535 * stN b.length ≤ b.length := by unfold stN; omega
  have hrest : b.length - 65535 * stN b.length ≤ 65535 := by unfold stN; omega
  obtain ⟨s, h1, h2, h3⟩ := stP_run mo b (shd 1 (b.length - 65535 * stN b.length) ++ b.drop (65535 * stN b.length) ++ rest) hb (stN b.length) hN
  have hdl : (b.drop (65535 * stN b.length)).length = b.length - 65535 * stN b.length := List.length_drop
  have hso : s.out.length = 65535 * stN b.length := by rw [h3, List.length_take]; omega
  obtain ⟨s', k1, k2⟩ := stored_fin mo s (b.drop (65535 * stN b.length)) rest h2 (by omega) (by omega)
  rw [hdl, ← shd_head 1 _ hrest] at k1
  have hrun : run mo ini (bt (stE b 1 ++ rest) 0) = (s', bt rest 0, 0) := by
    unfold stE
    rw [List.append_assoc, h1, k1]
  rw [idec_eq hm, hrun]
  simp only [if_true]
  rw [k2, h3, List.take_append_drop]
  have : (bt rest 0).n = 8 * rest.length := by rw [bt_n]; omega
  simp only [Prod.mk.injEq, true_and, and_true, List.length_append]
  rw [this]
  omega
/-! ### One and Decode with more room -/
theorem idec_wider {b : List By} {mo mo' : Nat} (h : mo ≤ mo') (hm : mo' ≤ 4194304) (h0 : (idec b mo).2.2 = 0) : idec b mo' = idec b mo ∧ (idec b mo).1.length ≤ mo := by
  have hr : run mo' ini (bt b 0) = run mo ini (bt b 0) := by
    refine run_room h ini _ (fun e => ?_)
    obtain ⟨q1, _⟩ := idec_fine (by omega) h0
    omega
  refine ⟨by rw [idec_eq hm, idec_eq (mo := mo) (by omega), hr], (idec_bound (by omega) h0).1⟩
theorem one_wider {b : List By} {mo mo' : Int} (h : mo ≤ mo') (hm : mo' ≤ 4194304) {o : List By} {m : Md} {n : Nat} (e : oneZ b mo = .ok o m n) : oneZ b mo' = .ok o m n ∧ (o.length : Int) ≤ mo := by
  have hp := one_pos e
  obtain ⟨k, rfl⟩ : ∃ k : Nat, mo = (k : Int) := ⟨mo.toNat, by omega⟩
  obtain ⟨k', rfl⟩ : ∃ k : Nat, mo' = (k : Int) := ⟨mo'.toNat, by omega⟩
  unfold oneZ at e ⊢
  rw [if_neg (by omega)] at e ⊢
  cases hh : headH b 0 with
  | bad y => rw [hh] at e; cases e
  | ok m1 n1 =>
    rw [hh] at e
    simp only at e ⊢
    by_cases h0 : (idec (b.drop n1) (k : Nat)).2.2 = 0
    · obtain ⟨w1, w2⟩ := idec_wider (b := b.drop n1) (show k ≤ k' by omega) (by omega) h0
      rw [w1]
      refine ⟨e, ?_⟩
      rw [if_neg (by simpa using h0)] at e
      split at e
      · cases e
      · injection e with e1 e2 e3
        rw [← e1]; omega
    · rw [if_pos h0] at e; cases e
theorem dec_wider {b : List By} {z : Nat} {most : Int} (hm : most ≤ 4194304) : ∀ (k p : Nat) (out : List By) (ms : List Md) (O : List By) (M : List Md), (ms.length = 0 ∧ out = [] ∨ (out.length : Int) ≤ most ∧ 1 ≤ ms.length) → decL b z most k p out ms = .ok O M → decL b z 4194304 k p out ms = .ok O M ∧ (O.length : Int) ≤ most ∧ 1 ≤ M.length := by
  intro k
  induction k with
  | zero => intro p out ms O M _ h; cases h
  | succ k ih =>
    intro p out ms O M hs h
    by_cases hc : ms.length = 0 ∨ p < z
    · cases e : oneZ (b.drop p) (most - out.length) with
      | bad y => rw [decL_bad hc e] at h; cases h
      | ok o m n =>
        rw [decL_ok hc e] at h
        have hp := one_pos e
        obtain ⟨w1, w2⟩ := one_wider (b := b.drop p) (mo := most - out.length) (mo' := 4194304 - out.length) (by omega) (by omega) e
        rw [decL_ok hc w1]
        refine ih _ _ _ O M (.inr ⟨?_, by simp⟩) h
        rw [List.length_append]; omega
    · rw [decL_done hc] at h ⊢
      injection h with h1 h2
      subst h1 h2
      refine ⟨rfl, ?_⟩
      rcases hs with ⟨a, _⟩ | ⟨a, a2⟩
      · exact absurd (.inl a) hc
      · exact ⟨a, a2⟩
theorem decZ_wider {b : List By} {most : Int} (hm : most ≤ 4194304) {O : List By} {M : List Md} (h : decZ b most = .ok O M) : decZ b 4194304 = .ok O M ∧ (O.length : Int) ≤ most ∧ 1 ≤ M.length := by
  unfold decZ at h ⊢
  exact dec_wider hm _ _ _ _ _ _ (.inl ⟨rfl, rfl⟩) h
theorem decZ_arg {b : List By} {most : Int} (hm : most < 0 ∨ 4194304 < most) : decZ b most = .bad 1 := by
  unfold decZ
  rw [decL_bad (.inl rfl) (y := 1) (by unfold oneZ; rw [if_pos (by simpa using hm)])]
  rfl
end Go.Proofs.YtpjnbhflnbhnoaaGreatDoor

namespace Go.Proofs.YtpjnbhflnbhnoaaGreatDoor
open Go.RowKit
set_option linter.unusedVariables false
/-! ### The document's first example -/
def m0 : Mb := ⟨⟨#[110]⟩, ⟨#[]⟩, none, 0, [], 0, 0#8, 0#8, false, false⟩
def md0 : Md := ⟨[110#8], [], [], 0, 0#8, 0#8, false, false⟩
def wh0 : List By := [31#8, 139#8, 8#8, 8#8, 0#8, 0#8, 0#8, 0#8, 0#8, 0#8, 110#8, 0#8, 1#8, 1#8, 0#8, 254#8, 255#8, 97#8, 67#8, 190#8, 183#8, 232#8, 1#8, 0#8, 0#8, 0#8]
set_option maxRecDepth 100000 in
theorem m0_err : m0.err = 0 := by decide
set_option maxRecDepth 100000 in
theorem m0_whole : m0.whole [97#8] = wh0 := by decide
set_option maxRecDepth 100000 in
theorem sum9 : sumS [49#8, 50#8, 51#8, 52#8, 53#8, 54#8, 55#8, 56#8, 57#8] = 3421780262 := by decide
set_option maxRecDepth 100000 in
theorem head0a : headH (wh0 ++ [0#8, 0#8, 0#8]) 0 = .ok md0 12 := by rfl
set_option maxRecDepth 100000 in
theorem head0b : headH (wh0 ++ [88#8]) 0 = .ok md0 12 := by rfl
set_option maxRecDepth 100000 in
theorem one0 (b rest : List By) (hh : headH b 0 = .ok md0 12) (hd : b.drop 12 = stE [97#8] 1 ++ rest) (hl : (stE [97#8] 1).length = 6) (hc : chkZ (b.drop 18) [97#8] = 0) : oneZ b 9 = .ok [97#8] md0 26 := by
  unfold oneZ
  rw [if_neg (by decide), hh]
  simp only
  have := st_dec [97#8] rest 9 (by simp) (by decide)
  rw [← hd, hl] at this
  rw [show ((9 : Nat) : Int) = 9 from rfl] at this
  rw [this]
  simp only [ne_eq, not_true_eq_false, if_false]
  rw [show 12 + 6 = 18 from rfl, hc]
  rfl
set_option maxRecDepth 100000 in
theorem live1 : decZ (wh0 ++ [0#8, 0#8, 0#8]) 9 = .ok [97#8] [md0] := by
  have e1 := one0 (wh0 ++ [0#8, 0#8, 0#8]) [67#8, 190#8, 183#8, 232#8, 1#8, 0#8, 0#8, 0#8, 0#8, 0#8, 0#8] head0a (by decide) (by decide) (by decide)
  have e1' : oneZ ((wh0 ++ [0#8, 0#8, 0#8]).drop 0) (9 - (([] : List By).length : Int)) = .ok [97#8] md0 26 := e1
  unfold decZ
  rw [show (wh0 ++ [0#8, 0#8, 0#8]).length = 29 by decide, show zlen (wh0 ++ [0#8, 0#8, 0#8]) 29 = 23 by decide]
  rw [decL_ok (.inl rfl) (o := [97#8]) (m := md0) (n := 26) e1', decL_done (by decide)]
  rfl
set_option maxRecDepth 100000 in
theorem live2 : decZ (wh0 ++ [88#8]) 9 = .bad 5 := by
  have e1 := one0 (wh0 ++ [88#8]) [67#8, 190#8, 183#8, 232#8, 1#8, 0#8, 0#8, 0#8, 88#8] head0b (by decide) (by decide) (by decide)
  have e1' : oneZ ((wh0 ++ [88#8]).drop 0) (9 - (([] : List By).length : Int)) = .ok [97#8] md0 26 := e1
  have e2 : oneZ ((wh0 ++ [88#8]).drop (0 + 26)) (9 - (([] ++ [97#8] : List By).length : Int)) = .bad 130 := by
    unfold oneZ
    rw [if_neg (by decide)]
    rw [show headH ((wh0 ++ [88#8]).drop (0 + 26)) 0 = .bad 130 from rfl]
  unfold decZ
  rw [show (wh0 ++ [88#8]).length = 27 by decide, show zlen (wh0 ++ [88#8]) 27 = 27 by decide]
  rw [decL_ok (.inl rfl) (o := [97#8]) (m := md0) (n := 26) e1', decL_bad (.inr (by decide)) e2]
  rfl
end Go.Proofs.YtpjnbhflnbhnoaaGreatDoor
