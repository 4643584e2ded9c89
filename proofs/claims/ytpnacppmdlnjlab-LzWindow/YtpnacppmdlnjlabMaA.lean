import Derived.Test.YtpnacppmdlnjlabPaB
import Derived.Test.YtpnacppmdlnjlabLzZ
import Derived.Test.YtpnacppmdlnjlabLzQ
import Derived.Test.YtpnacppmdlnjlabLzW
import Derived.Test.YtpnacppmdlnjlabLzC2
namespace Go.Proofs.Ytpnacppmdlnjlab
open Go.RowKit
set_option linter.unusedVariables false
/-! ### A sequence's bytes -/
/-- The bytes of a number beyond 15. -/
def numb (n : Nat) : List By := List.replicate (n / 255) 255#8 ++ [BitVec.ofNat 8 (n % 255)]
def ext (n : Nat) : List By := if n < 15 then [] else numb (n - 15)
def tok (p n : Nat) : By := BitVec.ofNat 8 (16 * min p 15 + min n 15)
/-- A sequence that is not the last one. -/
def encS (s : Sq) : List By := tok s.p.length (s.n - 4) :: (ext s.p.length ++ (s.p ++ (BitVec.ofNat 8 (s.b % 256) :: BitVec.ofNat 8 (s.b / 256) :: ext (s.n - 4))))
/-- The last one. -/
def encL (p : List By) : List By := tok p.length 0 :: (ext p.length ++ p)
def canS (s : Sq) : Prop := 1 ≤ s.b ∧ s.b ≤ 65535 ∧ 4 ≤ s.n
theorem more_rep (k : Nat) (x : By) (r : List By) (hx : ¬ x.toNat = 255) : more (List.replicate k 255#8 ++ x :: r) = some (255 * k + x.toNat, k + 1) := by
  induction k with
  | zero => simp [more, hx]
  | succ k ih =>
    rw [List.replicate_succ, List.cons_append, more, if_pos (by decide), ih]
    exact congrArg some (Prod.ext (by show _ + 255 = _; simp only; omega) rfl)
theorem more_numb (n : Nat) (r : List By) : more (numb n ++ r) = some (n, (numb n).length) := by
  unfold numb
  have hx : (BitVec.ofNat 8 (n % 255)).toNat = n % 255 := by rw [BitVec.toNat_ofNat]; omega
  rw [List.append_assoc, List.singleton_append, more_rep _ _ _ (by rw [hx]; omega), hx]
  exact congrArg some (Prod.ext (by simp only; omega) (by simp))
theorem num_ext (n : Nat) (r : List By) : num (min n 15) (ext n ++ r) = some (n, (ext n).length) := by
  unfold num ext
  by_cases h : n < 15
  · rw [if_neg (by omega), if_pos h, Nat.min_eq_left (by omega)]; rfl
  · rw [if_pos (by omega), if_neg h, more_numb]
    exact congrArg some (Prod.ext (by simp only; omega) rfl)
theorem tok_hi (p n : Nat) : (tok p n).toNat / 16 = min p 15 := by
  unfold tok; rw [BitVec.toNat_ofNat]; omega
theorem tok_lo (p n : Nat) : (tok p n).toNat % 16 = min n 15 := by
  unfold tok; rw [BitVec.toNat_ofNat]; omega
theorem plainS_ext {σ : Type} (T : Tk σ) (L : Nat) (p r : List By) (st : σ) (hr : T.room st p.length = true) : plainS T L (min p.length 15) (ext p.length ++ (p ++ r)) st = .ok r (T.plain st p) := by
  unfold plainS
  rw [num_ext]
  simp only [hr, Bool.true_eq_false, if_false]
  rw [if_neg (by simp)]
  congr 1
  · rw [← List.drop_drop, List.drop_left, List.drop_left]
  · rw [List.drop_left, List.take_left]
/-- A sequence is scanned. -/
theorem scan_enc {σ : Type} (T : Tk σ) (L : Nat) (s : Sq) (r : List By) (st : σ) (hc : canS s) (h1 : T.room st s.p.length = true) (h2 : T.reaches (T.plain st s.p) s.b = true) (h3 : T.room (T.plain st s.p) s.n = true) : scanS T L (encS s ++ r) st = scanS T L r (T.mat (T.plain st s.p) s.b s.n) := by
  obtain ⟨hb1, hb2, hn⟩ := hc
  unfold encS
  rw [List.cons_append, scanS_cons, tok_hi, tok_lo, List.append_assoc, List.append_assoc, plainS_ext T L s.p _ st h1]
  simp only [List.cons_append, reduceCtorEq, if_false]
  have e1 : (BitVec.ofNat 8 (s.b % 256)).toNat = s.b % 256 := by rw [BitVec.toNat_ofNat]; omega
  have e2 : (BitVec.ofNat 8 (s.b / 256)).toNat = s.b / 256 := by rw [BitVec.toNat_ofNat]; omega
  have e3 : s.b % 256 + 256 * (s.b / 256) = s.b := by omega
  have e4 : s.n - 4 + 4 = s.n := by omega
  have hm : matchS T L (min (s.n - 4) 15) (BitVec.ofNat 8 (s.b % 256) :: BitVec.ofNat 8 (s.b / 256) :: (ext (s.n - 4) ++ r)) (T.plain st s.p) = .ok r (T.mat (T.plain st s.p) s.b s.n) := by
    simp only [matchS, e1, e2, e3]
    rw [if_neg (fun h => by rcases h with h | h; omega; rw [h2] at h; cases h), num_ext]
    simp only [e4, h3, Bool.true_eq_false, if_false, List.drop_left]
  rw [hm]
theorem scan_last {σ : Type} (T : Tk σ) (L : Nat) (p : List By) (st : σ) (h1 : T.room st p.length = true) : scanS T L (encL p) st = .good (T.fin (T.plain st p)) := by
  unfold encL
  rw [scanS_cons, tok_hi, tok_lo]
  have := plainS_ext T L p [] st h1
  rw [List.append_nil] at this
  rw [this]
  simp
/-- The bytes of a block. -/
def mk (ms : List Sq) (p : List By) : List By := ms.flatMap encS ++ encL p
/-- What is made is parsed again. -/
theorem parse_mk (L : Nat) (ms : List Sq) (p : List By) (hc : ∀ s ∈ ms, canS s) (l : List Sq) (n : Sq) (f : Nat) : ∃ s, scanS ls L (mk ms p) ⟨l, n, f⟩ = .good s ∧ s.l = l ++ ms ++ [⟨p, 0, 0⟩] := by
  induction ms generalizing l n f with
  | nil => exact ⟨_, scan_last ls L p _ rfl, by simp [ls]⟩
  | cons s ms ih =>
    obtain ⟨s', h1, h2⟩ := ih (fun x hx => hc x (List.mem_cons_of_mem _ hx)) (l ++ [⟨s.p, s.b, s.n⟩]) ⟨s.p, s.b, s.n⟩ 0
    refine ⟨s', ?_, by rw [h2]; simp⟩
    unfold mk at h1 ⊢
    rw [List.flatMap_cons, List.append_assoc, scan_enc ls L s _ _ (hc s List.mem_cons_self) rfl rfl rfl]
    exact h1
theorem more_inv {r : List By} {n k : Nat} (h : more r = some (n, k)) : r = numb n ++ r.drop k := by
  induction r generalizing n k with
  | nil => simp [more] at h
  | cons x r ih =>
    simp only [more] at h
    by_cases hx : x.toNat = 255
    · rw [if_pos hx] at h
      cases hm : more r with
      | none => rw [hm] at h; cases h
      | some q =>
        obtain ⟨n', k'⟩ := q
        rw [hm] at h
        simp only [Option.some.injEq, Prod.mk.injEq] at h
        obtain ⟨rfl, rfl⟩ := h
        have hi := ih hm
        have hx' : x = 255#8 := BitVec.eq_of_toNat_eq (by rw [hx]; rfl)
        subst hx'
        rw [List.drop_succ_cons]
        have e : numb (n' + 255) = 255#8 :: numb n' := by
          unfold numb
          rw [show (n' + 255) / 255 = n' / 255 + 1 by omega, show (n' + 255) % 255 = n' % 255 by omega, List.replicate_succ]; rfl
        rw [e, List.cons_append, ← hi]
    · rw [if_neg hx] at h
      simp only [Option.some.injEq, Prod.mk.injEq] at h
      obtain ⟨rfl, rfl⟩ := h
      have := x.isLt
      have e : numb x.toNat = [x] := by
        unfold numb
        rw [show x.toNat / 255 = 0 by omega, show x.toNat % 255 = x.toNat by omega]
        simp
      rw [e]; rfl
theorem num_inv {low : Nat} {r : List By} {n k : Nat} (hl : low ≤ 15) (h : num low r = some (n, k)) : low = min n 15 ∧ r = ext n ++ r.drop k := by
  unfold num at h
  by_cases h15 : low = 15
  · rw [if_pos h15] at h
    cases hm : more r with
    | none => rw [hm] at h; cases h
    | some q =>
      obtain ⟨n', k'⟩ := q
      rw [hm] at h
      simp only [Option.some.injEq, Prod.mk.injEq] at h
      obtain ⟨rfl, rfl⟩ := h
      refine ⟨by omega, ?_⟩
      unfold ext
      rw [if_neg (by omega), Nat.add_sub_cancel]
      exact more_inv hm
  · rw [if_neg h15] at h
    simp only [Option.some.injEq, Prod.mk.injEq] at h
    obtain ⟨rfl, rfl⟩ := h
    refine ⟨by omega, ?_⟩
    unfold ext
    rw [if_pos (by omega)]; rfl
theorem tok_eq (t : By) (p n : Nat) (h1 : t.toNat / 16 = min p 15) (h2 : t.toNat % 16 = min n 15) : t = tok p n := by
  apply BitVec.eq_of_toNat_eq
  unfold tok
  rw [BitVec.toNat_ofNat]
  have := t.isLt
  omega
/-- What is parsed is made again. -/
theorem mk_parse (L : Nat) : ∀ (q : Nat) (r : List By) (s s' : Ls), r.length ≤ q → scanS ls L r s = .good s' → ∃ ms p, r = mk ms p ∧ s'.l = s.l ++ ms ++ [⟨p, 0, 0⟩] ∧ ∀ x ∈ ms, canS x := by
  intro q
  induction q with
  | zero =>
    intro r s s' hr h
    obtain rfl : r = [] := List.length_eq_zero_iff.1 (by omega)
    rw [scanS] at h; cases h
  | succ q ih =>
    intro r s s' hr h
    cases r with
    | nil => rw [scanS] at h; cases h
    | cons t r1 =>
      rw [scanS_cons] at h
      have htl := t.isLt
      cases hp : plainS ls L (t.toNat / 16) r1 s with
      | bad a y => rw [hp] at h; cases h
      | ok r3 s1 =>
        rw [hp] at h
        obtain ⟨n, k, hn, hroom, hnl, rfl, rfl⟩ := plainS_ok hp
        obtain ⟨hlow, hr1⟩ := num_inv (by omega) hn
        have hpl : ((r1.drop k).take n).length = n := by simp; omega
        have hr1' : r1 = ext n ++ ((r1.drop k).take n ++ r1.drop (k + n)) := by
          rw [← List.drop_drop, List.take_append_drop]; exact hr1
        simp only [List.length_cons] at hr
        simp only at h
        by_cases h3 : r1.drop (k + n) = []
        · rw [if_pos h3] at h
          by_cases hl0 : t.toNat % 16 = 0
          · rw [if_pos hl0] at h
            injection h with h
            subst h
            refine ⟨[], (r1.drop k).take n, ?_, by simp [ls], fun x hx => by simp at hx⟩
            unfold mk encL
            rw [List.flatMap_nil, List.nil_append, hpl, ← tok_eq t n 0 hlow (by omega)]
            conv => lhs; rw [hr1', h3, List.append_nil]
          · rw [if_neg hl0] at h; cases h
        · rw [if_neg h3] at h
          cases hm : matchS ls L (t.toNat % 16) (r1.drop (k + n)) (ls.plain s ((r1.drop k).take n)) with
          | bad a y => rw [hm] at h; cases h
          | ok r5 s2 =>
            rw [hm] at h
            have hl5 := matchS_le hm
            have hl3 : (r1.drop (k + n)).length ≤ r1.length := by simp
            obtain ⟨x, y, r4, n2, k2, hr4, h0, _, hn2, hroom2, rfl, rfl⟩ := matchS_ok hm
            obtain ⟨hlow2, hr4'⟩ := num_inv (by omega) hn2
            obtain ⟨ms, p, e1, e2, e3⟩ := ih (r4.drop k2) _ s' (by omega) h
            have hx := x.isLt
            have hy := y.isLt
            refine ⟨⟨(r1.drop k).take n, x.toNat + 256 * y.toNat, n2 + 4⟩ :: ms, p, ?_, ?_, ?_⟩
            · unfold mk at e1 ⊢
              rw [List.flatMap_cons, List.append_assoc, ← e1]
              unfold encS
              simp only [hpl, Nat.add_sub_cancel]
              rw [← tok_eq t n n2 hlow hlow2]
              have ex : BitVec.ofNat 8 ((x.toNat + 256 * y.toNat) % 256) = x := BitVec.eq_of_toNat_eq (by rw [BitVec.toNat_ofNat]; omega)
              have ey : BitVec.ofNat 8 ((x.toNat + 256 * y.toNat) / 256) = y := BitVec.eq_of_toNat_eq (by rw [BitVec.toNat_ofNat]; omega)
              rw [ex, ey]
              conv => lhs; rw [hr1', hr4, hr4']
              simp
            · rw [e2]
              show s.l ++ [_] ++ ms ++ _ = _
              simp [ls]
            · intro z hz
              rw [List.mem_cons] at hz
              rcases hz with rfl | hz
              · exact ⟨by show 1 ≤ x.toNat + 256 * y.toNat; omega, by show x.toNat + 256 * y.toNat ≤ 65535; omega, by show 4 ≤ n2 + 4; omega⟩
              · exact e3 z hz
end Go.Proofs.Ytpnacppmdlnjlab
