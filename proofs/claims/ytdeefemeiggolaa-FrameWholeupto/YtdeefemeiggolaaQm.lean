import Derived.Test.YtdeefemeiggolaaQk
import Derived.Test.YtdeefemeiggolaaQh
import Derived.Test.YtdeefemeiggolaaQl
import Derived.Test.YtdeefemeiggolaaQa
import Derived.Lib.MinMax
namespace Go.Proofs.Ytdeefemeiggolaa
open Go.RowKit
set_option linter.unusedVariables false
/-! ### A sequence's bytes -/
/-- The bytes of a number beyond 15. -/
def numb (n : Nat) : List By := List.replicate (n / 255) 255#8 ++ [BitVec.ofNat 8 (n % 255)]
def ext (n : Nat) : List By := if n < 15 then [] else numb (n - 15)
def tok (p n : Nat) : By := BitVec.ofNat 8 (16 * min p 15 + min n 15)
/-- A sequence that is not the last one. -/
def encS (s : Sq) : List By := tok s.p.length (s.n - 4) :: (ext s.p.length ++ (s.p ++ (BitVec.ofNat 8 (s.b % 256) :: BitVec.ofNat 8 (s.b / 256) :: ext (s.n - 4))))
/-- The last one. -/
def encL (p : List By) : List By := tok p.length 0 :: (ext p.length ++ p)
def canS (s : Sq) : Prop := 1 ≤ s.b ∧ s.b ≤ 65535 ∧ 4 ≤ s.n
theorem more_rep (k : Nat) (x : By) (r : List By) (hx : ¬ x.toNat = 255) : more (List.replicate k 255#8 ++ x :: r) = some (255 * k + x.toNat, k + 1) := by
  induction k with
  | zero => simp [more, hx]
  | succ k ih =>
    rw [List.replicate_succ, List.cons_append, more, if_pos (by decide), ih]
    exact congrArg some (Prod.ext (by show _ + 255 = _; simp only; omega) rfl)
theorem more_numb (n : Nat) (r : List By) : more (numb n ++ r) = some (n, (numb n).length) := by
  unfold numb
  have hx : (BitVec.ofNat 8 (n % 255)).toNat = n % 255 := by rw [BitVec.toNat_ofNat]; omega
  rw [List.append_assoc, List.singleton_append, more_rep _ _ _ (by rw [hx]; omega), hx]
  exact congrArg some (Prod.ext (by simp only; omega) (by simp))
theorem num_ext (n : Nat) (r : List By) : num (min n 15) (ext n ++ r) = some (n, (ext n).length) := by
  unfold num ext
  by_cases h : n < 15
  · rw [if_neg (by omega), if_pos h, Nat.min_eq_left (by omega)]; rfl
  · rw [if_pos (by omega), if_neg h, more_numb]
    exact congrArg some (Prod.ext (by simp only; omega) rfl)
theorem tok_hi (p n : Nat) : (tok p n).toNat / 16 = min p 15 := by
  unfold tok; rw [BitVec.toNat_ofNat]; omega
theorem tok_lo (p n : Nat) : (tok p n).toNat % 16 = min n 15 := by
  unfold tok; rw [BitVec.toNat_ofNat]; omega
theorem plainS_ext {σ : Type} (T : Tk σ) (L : Nat) (p r : List By) (st : σ) (hr : T.room st p.length = true) : plainS T L (min p.length 15) (ext p.length ++ (p ++ r)) st = .ok r (T.plain st p) := by
  unfold plainS
  rw [num_ext]
  simp only [hr, Bool.true_eq_false, if_false]
  rw [if_neg (by simp)]
  congr 1
  · rw [← List.drop_drop, List.drop_left, List.drop_left]
  · rw [List.drop_left, List.take_left]
/-- A sequence is scanned. -/
theorem scan_enc {σ : Type} (T : Tk σ) (L : Nat) (s : Sq) (r : List By) (st : σ) (hc : canS s) (h1 : T.room st s.p.length = true) (h2 : T.reaches (T.plain st s.p) s.b = true) (h3 : T.room (T.plain st s.p) s.n = true) : scanS T L (encS s ++ r) st = scanS T L r (T.mat (T.plain st s.p) s.b s.n) := by
  obtain ⟨hb1, hb2, hn⟩ := hc
  unfold encS
  rw [List.cons_append, scanS_cons, tok_hi, tok_lo, List.append_assoc, List.append_assoc, plainS_ext T L s.p _ st h1]
  simp only [List.cons_append, reduceCtorEq, if_false]
  have e1 : (BitVec.ofNat 8 (s.b % 256)).toNat = s.b % 256 := by rw [BitVec.toNat_ofNat]; omega
  have e2 : (BitVec.ofNat 8 (s.b / 256)).toNat = s.b / 256 := by rw [BitVec.toNat_ofNat]; omega
  have e3 : s.b % 256 + 256 * (s.b / 256) = s.b := by omega
  have e4 : s.n - 4 + 4 = s.n := by omega
  have hm : matchS T L (min (s.n - 4) 15) (BitVec.ofNat 8 (s.b % 256) :: BitVec.ofNat 8 (s.b / 256) :: (ext (s.n - 4) ++ r)) (T.plain st s.p) = .ok r (T.mat (T.plain st s.p) s.b s.n) := by
    simp only [matchS, e1, e2, e3]
    rw [if_neg (fun h => by rcases h with h | h; omega; rw [h2] at h; cases h), num_ext]
    simp only [e4, h3, Bool.true_eq_false, if_false, List.drop_left]
  rw [hm]
theorem scan_last {σ : Type} (T : Tk σ) (L : Nat) (p : List By) (st : σ) (h1 : T.room st p.length = true) : scanS T L (encL p) st = .good (T.fin (T.plain st p)) := by
  unfold encL
  rw [scanS_cons, tok_hi, tok_lo]
  have := plainS_ext T L p [] st h1
  rw [List.append_nil] at this
  rw [this]
  simp
/-- The bytes of a block. -/
def mk (ms : List Sq) (p : List By) : List By := ms.flatMap encS ++ encL p
/-- What is made is parsed again. -/
theorem parse_mk (L : Nat) (ms : List Sq) (p : List By) (hc : ∀ s ∈ ms, canS s) (l : List Sq) (n : Sq) (f : Nat) : ∃ s, scanS ls L (mk ms p) ⟨l, n, f⟩ = .good s ∧ s.l = l ++ ms ++ [⟨p, 0, 0⟩] := by
  induction ms generalizing l n f with
  | nil => exact ⟨_, scan_last ls L p _ rfl, by simp [ls]⟩
  | cons s ms ih =>
    obtain ⟨s', h1, h2⟩ := ih (fun x hx => hc x (List.mem_cons_of_mem _ hx)) (l ++ [⟨s.p, s.b, s.n⟩]) ⟨s.p, s.b, s.n⟩ 0
    refine ⟨s', ?_, by rw [h2]; simp⟩
    unfold mk at h1 ⊢
    rw [List.flatMap_cons, List.append_assoc, scan_enc ls L s _ _ (hc s List.mem_cons_self) rfl rfl rfl]
    exact h1
theorem more_inv {r : List By} {n k : Nat} (h : more r = some (n, k)) : r = numb n ++ r.drop k := by
  induction r generalizing n k with
  | nil => simp [more] at h
  | cons x r ih =>
    simp only [more] at h
    by_cases hx : x.toNat = 255
    · rw [if_pos hx] at h
      cases hm : more r with
      | none => rw [hm] at h; cases h
      | some q =>
        obtain ⟨n', k'⟩ := q
        rw [hm] at h
        simp only [Option.some.injEq, Prod.mk.injEq] at h
        obtain ⟨rfl, rfl⟩ := h
        have hi := ih hm
        have hx' : x = 255#8 := BitVec.eq_of_toNat_eq (by rw [hx]; rfl)
        subst hx'
        rw [List.drop_succ_cons]
        have e : numb (n' + 255) = 255#8 :: numb n' := by
          unfold numb
          rw [show (n' + 255) / 255 = n' / 255 + 1 by omega, show (n' + 255) % 255 = n' % 255 by omega, List.replicate_succ]; rfl
        rw [e, List.cons_append, ← hi]
    · rw [if_neg hx] at h
      simp only [Option.some.injEq, Prod.mk.injEq] at h
      obtain ⟨rfl, rfl⟩ := h
      have := x.isLt
      have e : numb x.toNat = [x] := by
        unfold numb
        rw [show x.toNat / 255 = 0 by omega, show x.toNat % 255 = x.toNat by omega]
        simp
      rw [e]; rfl
theorem num_inv {low : Nat} {r : List By} {n k : Nat} (hl : low ≤ 15) (h : num low r = some (n, k)) : low = min n 15 ∧ r = ext n ++ r.drop k := by
  unfold num at h
  by_cases h15 : low = 15
  · rw [if_pos h15] at h
    cases hm : more r with
    | none => rw [hm] at h; cases h
    | some q =>
      obtain ⟨n', k'⟩ := q
      rw [hm] at h
      simp only [Option.some.injEq, Prod.mk.injEq] at h
      obtain ⟨rfl, rfl⟩ := h
      refine ⟨by omega, ?_⟩
      unfold ext
      rw [if_neg (by omega), Nat.add_sub_cancel]
      exact more_inv hm
  · rw [if_neg h15] at h
    simp only [Option.some.injEq, Prod.mk.injEq] at h
    obtain ⟨rfl, rfl⟩ := h
    refine ⟨by omega, ?_⟩
    unfold ext
    rw [if_pos (by omega)]; rfl
theorem tok_eq (t : By) (p n : Nat) (h1 : t.toNat / 16 = min p 15) (h2 : t.toNat % 16 = min n 15) : t = tok p n := by
  apply BitVec.eq_of_toNat_eq
  unfold tok
  rw [BitVec.toNat_ofNat]
  have := t.isLt
  omega
/-- What is parsed is made again. -/
theorem mk_parse (L : Nat) : ∀ (q : Nat) (r : List By) (s s' : Ls), r.length ≤ q → scanS ls L r s = .good s' → ∃ ms p, r = mk ms p ∧ s'.l = s.l ++ ms ++ [⟨p, 0, 0⟩] ∧ ∀ x ∈ ms, canS x := by
  intro q
  induction q with
  | zero =>
    intro r s s' hr h
    obtain rfl : r = [] := List.length_eq_zero_iff.1 (by omega)
    rw [scanS] at h; cases h
  | succ q ih =>
    intro r s s' hr h
    cases r with
    | nil => rw [scanS] at h; cases h
    | cons t r1 =>
      rw [scanS_cons] at h
      have htl := t.isLt
      cases hp : plainS ls L (t.toNat / 16) r1 s with
      | bad a y => rw [hp] at h; cases h
      | ok r3 s1 =>
        rw [hp] at h
        obtain ⟨n, k, hn, hroom, hnl, rfl, rfl⟩ := plainS_ok hp
        obtain ⟨hlow, hr1⟩ := num_inv (by omega) hn
        have hpl : ((r1.drop k).take n).length = n := by simp; omega
        have hr1' : r1 = ext n ++ ((r1.drop k).take n ++ r1.drop (k + n)) := by
          rw [← List.drop_drop, List.take_append_drop]; exact hr1
        simp only [List.length_cons] at hr
        simp only at h
        by_cases h3 : r1.drop (k + n) = []
        · rw [if_pos h3] at h
          by_cases hl0 : t.toNat % 16 = 0
          · rw [if_pos hl0] at h
            injection h with h
            subst h
            refine ⟨[], (r1.drop k).take n, ?_, by simp [ls], fun x hx => by simp at hx⟩
            unfold mk encL
            rw [List.flatMap_nil, List.nil_append, hpl, ← tok_eq t n 0 hlow (by omega)]
            conv => lhs; rw [hr1', h3, List.append_nil]
          · rw [if_neg hl0] at h; cases h
        · rw [if_neg h3] at h
          cases hm : matchS ls L (t.toNat % 16) (r1.drop (k + n)) (ls.plain s ((r1.drop k).take n)) with
          | bad a y => rw [hm] at h; cases h
          | ok r5 s2 =>
            rw [hm] at h
            have hl5 := matchS_le hm
            have hl3 : (r1.drop (k + n)).length ≤ r1.length := by simp
            obtain ⟨x, y, r4, n2, k2, hr4, h0, _, hn2, hroom2, rfl, rfl⟩ := matchS_ok hm
            obtain ⟨hlow2, hr4'⟩ := num_inv (by omega) hn2
            obtain ⟨ms, p, e1, e2, e3⟩ := ih (r4.drop k2) _ s' (by omega) h
            have hx := x.isLt
            have hy := y.isLt
            refine ⟨⟨(r1.drop k).take n, x.toNat + 256 * y.toNat, n2 + 4⟩ :: ms, p, ?_, ?_, ?_⟩
            · unfold mk at e1 ⊢
              rw [List.flatMap_cons, List.append_assoc, ← e1]
              unfold encS
              simp only [hpl, Nat.add_sub_cancel]
              rw [← tok_eq t n n2 hlow hlow2]
              have ex : BitVec.ofNat 8 ((x.toNat + 256 * y.toNat) % 256) = x := BitVec.eq_of_toNat_eq (by rw [BitVec.toNat_ofNat]; omega)
              have ey : BitVec.ofNat 8 ((x.toNat + 256 * y.toNat) / 256) = y := BitVec.eq_of_toNat_eq (by rw [BitVec.toNat_ofNat]; omega)
              rw [ex, ey]
              conv => lhs; rw [hr1', hr4, hr4']
              simp
            · rw [e2]
              show s.l ++ [_] ++ ms ++ _ = _
              simp [ls]
            · intro z hz
              rw [List.mem_cons] at hz
              rcases hz with rfl | hz
              · exact ⟨by show 1 ≤ x.toNat + 256 * y.toNat; omega, by show x.toNat + 256 * y.toNat ≤ 65535; omega, by show 4 ≤ n2 + 4; omega⟩
              · exact e3 z hz
end Go.Proofs.Ytdeefemeiggolaa

namespace Go.Proofs.Ytdeefemeiggolaa
open Go.RowKit
set_option linter.unusedVariables false
set_option maxHeartbeats 8000000 in
set_option maxRecDepth 100000 in
theorem putNumber_any (K : Nat → Prop) (w : World) (hK : ∀ k, K k → k < w.heap.size) (v : Value) (b : List By) (hb : Mine K v b w) (n : Nat) (hn : n ≤ 1000000000) (hs : b.length ≤ 1000000000) :
    Calls Try.prog 74 #[v, .int .i64 n] w fun e w' => ∃ v', e = .returned v' ∧ Mine K v' (b ++ ext n) w' ∧ Fr (fun k => ¬ K k) w w' := by
  obtain ⟨P, hP⟩ : ∃ P : Ending → World → Prop, P = fun e w' => ∃ v', e = .returned v' ∧ Mine K v' (b ++ ext n) w' ∧ Fr (fun k => ¬ K k) w w' := ⟨_, rfl⟩
  rw [← hP]
  have HP : Hid (P = fun e w' => ∃ v', e = .returned v' ∧ Mine K v' (b ++ ext n) w' ∧ Fr (fun k => ¬ K k) w w') := hP
  clear hP
  by_cases h15 : n < 15
  · have HF : Hid (P (.returned v) w) := by
      show P _ _
      rw [HP.out]
      refine ⟨v, rfl, ?_, Fr.refl _ _⟩
      unfold ext
      rw [if_pos h15, List.append_nil]; exact hb
    have hz : (n : Int) < 15 := by omega
    clear HP hb hK
    go_enter Try.func74, Try.ntmps74
    go_wp2
    exact HF.out
  · have hz : ¬ (n : Int) < 15 := by omega
    have HI0 : Hid (Mine K v (b ++ List.replicate 0 255#8) w ∧ Fr (fun k => ¬ K k) w w) := ⟨by rw [List.replicate_zero, List.append_nil]; exact hb, Fr.refl _ _⟩
    have HK : Hid (∀ k, K k → k < w.heap.size) := hK
    obtain ⟨m, hm⟩ : ∃ m, m = n - 15 := ⟨_, rfl⟩
    have hz1 : (n : Int) - 15 = (m : Int) := by omega
    have hnm : Hid (n = m + 15) := by show _ = _; omega
    clear hb hK hm
    go_enter Try.func74, Try.ntmps74
    go_wp2
    go_loopg [0, 1] m (fun kx x i wr => ∃ (j r : Nat), r ≤ kx ∧ i = .int .i64 r ∧ r ≤ m ∧ Hid (m = 255 * j + r ∧ Mine K x (b ++ List.replicate j 255#8) wr ∧ Fr (fun k => ¬ K k) w wr))
    case atStart => exact ⟨0, m, Nat.le_refl _, rfl, Nat.le_refl _, by omega, HI0.out⟩
    case round =>
      obtain ⟨j, r, hkx, rfl, hrm, HI⟩ := hrel
      clear HI0
      obtain ⟨hj, hM, hF⟩ := HI.out
      have hnm' := hnm.out
      have hlen : (b ++ List.replicate j 255#8).length ≤ 150000000000000 := by rw [List.length_append, List.length_replicate]; omega
      by_cases h255 : 255 ≤ r
      · obtain ⟨a, c, v', W, rfl, HAP, HN⟩ := mine_step K _ wr (fun k hk => Nat.lt_of_lt_of_le (HK.out k hk) hF.size) u0 hM hlen 255#8 255 rfl
        have HN' : Hid (m = 255 * (j + 1) + (r - 255) ∧ Mine K v' (b ++ List.replicate (j + 1) 255#8) W ∧ Fr (fun k => ¬ K k) w W) := by
          refine ⟨by omega, ?_, hF.trans HN.out.2⟩
          have := HN.out.1
          rw [List.append_assoc] at this
          rw [List.replicate_succ', ]; exact this
        have hz2 : (255 : Int) ≤ (r : Int) := by omega
        have hz3 : (r : Int) - 255 = ((r - 255 : Nat) : Int) := by omega
        clear HI hM hF HN HP HK hj hnm hnm' hlen
        generalize (b ++ List.replicate j 255#8).length = ln at *
        generalize hr' : r - 255 = r' at *
        have hr2 : r' < r := by omega
        clear hr'
        go_wp2_with (first
          | (at_builtin; refine Lib.wpList_append_run _ rfl _ _ 22 22 rfl (.slice a ln c) (.slice (some ⟨wr.heap.size, 0, none⟩) 1 1) (by simp [Act.eval]) (by simp [Act.eval]) _ _ (HAP.out _) ?_))
        go_roundg r'
        case measure => omega
        case rel => exact ⟨j + 1, r', Nat.le_refl _, rfl, by omega, HN'⟩
      · have hx : (r : Int) = ((BitVec.ofNat 8 r).toNat : Int) := by rw [BitVec.toNat_ofNat]; omega
        obtain ⟨a, c, v', W, rfl, HAP, HN⟩ := mine_step K _ wr (fun k hk => Nat.lt_of_lt_of_le (HK.out k hk) hF.size) u0 hM hlen (BitVec.ofNat 8 r) r hx
        have HF : Hid (P (.returned v') W) := by
          show P _ _
          rw [HP.out]
          refine ⟨v', rfl, ?_, hF.trans HN.out.2⟩
          have := HN.out.1
          rw [List.append_assoc] at this
          have e : ext n = List.replicate j 255#8 ++ [BitVec.ofNat 8 r] := by
            unfold ext numb
            rw [if_neg h15, show n - 15 = m by omega, show m / 255 = j by omega, show m % 255 = r by omega]
          rw [e]; exact this
        have hz2 : ¬ (255 : Int) ≤ (r : Int) := by omega
        have hw8 : IntKind.u8.wrap (r : Int) = (r : Int) := by rw [IntKind.wrap_u8]; omega
        clear HI hM hF HN HP HK hj hnm hnm' hlen hx
        generalize (b ++ List.replicate j 255#8).length = ln at *
        go_wp2_with (first
          | (at_builtin; refine Lib.wpList_append_run _ rfl _ _ 22 22 rfl (.slice a ln c) (.slice (some ⟨wr.heap.size, 0, none⟩) 1 1) (by simp [Act.eval]) (by simp [Act.eval]) _ _ (HAP.out _) ?_))
        exact HF.out
theorem or_tok (x y : Nat) (hx : x ≤ 15) (hy : y ≤ 15) : bits .or .i64 ((x : Int) * 16) (y : Int) = ((16 * x + y : Nat) : Int) := by
  have h2 : x <<< 4 = x * 16 := by rw [Nat.shiftLeft_eq]
  have e : ((x : Int) * (16 : Int)) = ((x <<< 4 : Nat) : Int) := by rw [h2]; omega
  show IntKind.i64.wrap (((BitVec.ofInt 64 ((x : Int) * (16 : Int)) ||| BitVec.ofInt 64 (y : Int) : BitVec 64).toNat : Nat) : Int) = _
  rw [e, BitVec.toNat_or, BitVec.ofInt_natCast, BitVec.ofInt_natCast, BitVec.toNat_ofNat, BitVec.toNat_ofNat]
  rw [Nat.mod_eq_of_lt (show y < 2 ^ 64 by omega), Nat.mod_eq_of_lt (show x <<< 4 < 2 ^ 64 by omega), ← Nat.shiftLeft_add_eq_or_of_lt (show y < 2 ^ 4 by omega), h2, IntKind.wrap_i64]
  omega
end Go.Proofs.Ytdeefemeiggolaa

namespace Go.Proofs.Ytdeefemeiggolaa
open Go.RowKit
set_option linter.unusedVariables false
/-- A sequence in a block of its own. -/
structure Bq (q : Nat) (vp : Value) (zb zn : Int) (w : World) : Prop where
  c0 : w.cell? ⟨q, 0, none⟩ = some vp
  c1 : w.cell? ⟨q, 1, none⟩ = some (.int .i64 zb)
  c2 : w.cell? ⟨q, 2, none⟩ = some (.int .i64 zn)
theorem Bq.kept {q : Nat} {vp : Value} {zb zn : Int} {w w' : World} {X : Nat → Prop} (h : Bq q vp zb zn w) (f : Fr X w w') (hx : ¬ X q) : Bq q vp zb zn w' := ⟨f.cellv h.c0 hx, f.cellv h.c1 hx, f.cellv h.c2 hx⟩
theorem two_new (w : World) (x y : By) (zx zy : Int) (hx : zx = x.toNat) (hy : zy = y.toNat) : Sl (fun _ => False) (.slice (some ⟨w.heap.size, 0, none⟩) 2 2) [x, y] (w.alloc (.cells #[.int .u8 zx, .int .u8 zy] 5)) := by
  subst hx hy
  refine .inr ⟨w.heap.size, fun h => h, 0, 2, rfl, by simp, by decide, fun j hj => ?_⟩
  have : j = 0 ∨ j = 1 := by simp at hj; omega
  rcases this with rfl | rfl
  · exact new_cell _ _ _ _ _ rfl
  · exact new_cell _ _ _ _ _ rfl
set_option maxHeartbeats 8000000 in
set_option maxRecDepth 100000 in
/-- The last sequence put. -/
theorem put_last (K : Nat → Prop) (w : World) (hK : ∀ k, K k → k < w.heap.size) (v : Value) (b : List By) (hb : Mine K v b w) (vp : Value) (p : List By) (hp : Sl (fun k => ¬ K k) vp p w) (hpl : p.length ≤ 10000000) (hs : b.length ≤ 100000000) :
    Calls Try.prog 59 #[v, .agg #[vp, .int .i64 0, .int .i64 0]] w fun e w' => ∃ v', e = .returned v' ∧ Mine K v' (b ++ encL p) w' ∧ Fr (fun k => ¬ K k) w w' := by
  obtain ⟨P, hP⟩ : ∃ P : Ending → World → Prop, P = fun e w' => ∃ v', e = .returned v' ∧ Mine K v' (b ++ encL p) w' ∧ Fr (fun k => ¬ K k) w w' := ⟨_, rfl⟩
  rw [← hP]
  have HP : Hid (P = fun e w' => ∃ v', e = .returned v' ∧ Mine K v' (b ++ encL p) w' ∧ Fr (fun k => ¬ K k) w w') := hP
  clear hP
  obtain ⟨W0, hW0⟩ : ∃ W0, w.alloc (.cells #[vp, .int .i64 0, .int .i64 0] 106) = W0 := ⟨_, rfl⟩
  have hN0 : Nw w W0 := by rw [← hW0]; exact (Fr.refl _ _).alloc _
  have hs0 : W0.heap.size = w.heap.size + 1 := by rw [← hW0]; simp
  obtain ⟨q, hq⟩ : ∃ q, w.heap.size = q := ⟨_, rfl⟩
  have hB0 : Bq q vp 0 0 W0 := by rw [← hW0, ← hq]; exact ⟨new_cell _ _ _ _ _ rfl, new_cell _ _ _ _ _ rfl, new_cell _ _ _ _ _ rfl⟩
  have hK1 : ∀ k, (K k ∨ k = q) → k < W0.heap.size := fun k hk => by rcases hk with hk | hk; have := hK k hk; omega; omega
  have hM0 : Mine (fun k => K k ∨ k = q) v b W0 := (hb.more (fun g hg => by rcases hg with hg | hg; exact .inl hg; exact .inr (by omega))).nw hN0
  have htk : ((16 * min p.length 15 + 0 : Nat) : Int) = ((tok p.length 0).toNat : Int) := by unfold tok; rw [BitVec.toNat_ofNat]; omega
  obtain ⟨a, c, v1, W1, rfl, HAP1, HN1⟩ := mine_step _ b W0 hK1 v hM0 (by omega) (tok p.length 0) _ htk
  obtain ⟨hM1, hF1⟩ := HN1.out
  have hqK : ¬ ¬ (K q ∨ q = q) := fun h => h (.inr rfl)
  have hB1 := hB0.kept hF1 hqK
  have hFw : ∀ {V V' : World}, Fr (fun k => ¬ (K k ∨ k = q)) V V' → Fr (fun k => ¬ K k) V V' := fun h => h.mono (fun k hk => .inl (fun h => hk (.inl h)))
  have HPN : Hid (Calls Try.prog 74 #[v1, .int .i64 p.length] W1 fun e w2 => ∃ v2, e = .returned v2 ∧ Bq q vp 0 0 w2 ∧ ∃ v3 W3, Hid (∀ ty, (Builtin.append_ #[22, 22] ty #[v2, vp]).run Try.prog w2 = .ok v3 W3) ∧ Bq q vp 0 0 W3 ∧ Hid (P (.returned v3) W3)) := by
    show Calls _ _ _ _ _
    refine (putNumber_any _ W1 (fun k hk => Nat.lt_of_lt_of_le (hK1 k hk) hF1.size) v1 _ hM1 p.length (by omega) (by rw [List.length_append, List.length_singleton]; omega)).mono ?_
    rintro e w2 ⟨v2, rfl, hM2, hF2⟩
    have hB2 := hB1.kept hF2 hqK
    have hp2 : Sl (fun k => ¬ K k) vp p w2 := ((hp.nw hN0).kept hF1 (fun g hg h => hg (.inl h))).kept hF2 (fun g hg h => hg (.inl h))
    have hel : (ext p.length).length ≤ p.length + 1 := by unfold ext numb; split <;> simp; omega
    obtain ⟨v3, W3, hap, hM3, hF3⟩ := mine_app _ w2 (fun k hk => Nat.lt_of_lt_of_le (hK1 k hk) (Nat.le_trans hF1.size hF2.size)) v2 _ hM2 vp p (hp2.mono (fun _ h => h.elim)) (by rw [List.length_append, List.length_append, List.length_singleton]; omega)
    refine ⟨v2, rfl, hB2, v3, W3, hap, hB2.kept hF3 hqK, ?_⟩
    show P _ _
    rw [HP.out]
    refine ⟨v3, rfl, ?_, ((hN0.any.trans (hFw hF1)).trans (hFw hF2)).trans (hFw hF3)⟩
    have e : b ++ [tok p.length 0] ++ ext p.length ++ p = b ++ encL p := by unfold encL; simp
    rw [e] at hM3
    exact hM3.more (fun g hg => .inl (.inl hg))
  obtain ⟨ap, cp, rfl, _, _⟩ := hp.form
  clear htk HN1 hM1 hF1 hM0 hK1 hb hp hK HP hN0
  obtain ⟨x0, x1, x2⟩ := hB0
  obtain ⟨y0, y1, y2⟩ := hB1
  generalize hP0 : p.length = pl0 at *
  generalize hbl : b.length = bl at *
  have hmin : min (pl0 : Int) 15 = ((min pl0 15 : Nat) : Int) := by omega
  have hz0 : max (-4 : Int) 0 = 0 := by decide
  have hmin0 : min (0 : Int) 15 = 0 := by decide
  have hw8 : ((16 * min pl0 15 + 0 : Nat) : Int) % 256 = ((16 * min pl0 15 + 0 : Nat) : Int) := by omega
  have hor : bits .or .i64 ((min pl0 15 : Nat) * 16 : Int) 0 = ((16 * min pl0 15 + 0 : Nat) : Int) := or_tok (min pl0 15) 0 (by omega) (by omega)
  generalize min pl0 15 = mp at *
  generalize hT : 16 * mp + 0 = T at *
  clear hP0 hbl hT
  obtain ⟨q1, hq1⟩ : ∃ q1, W0.heap.size = q1 := ⟨_, rfl⟩
  rw [hq1] at HAP1
  clear hs0
  go_enter Try.func59, Try.ntmps59
  go_wp2_with (first
    | (at_builtin; refine Lib.wpList_append_run _ rfl _ _ 22 22 rfl (.slice a bl c) (.slice (some ⟨q1, 0, none⟩) 1 1) (by simp [Act.eval]) (by simp [Act.eval]) _ _ (HAP1.out _) ?_)
    | (go_at_call 74; with_reducible refine (HPN.out).mono ?_; rintro e w2 ⟨v2, rfl, ⟨z0, z1, z2⟩, v3, W3, HAP3, ⟨t0, t1, t2⟩, HF⟩)
    | (at_builtin; refine Lib.wpList_append_run _ rfl _ _ 22 22 rfl v2 (.slice ap pl0 cp) (by simp [Act.eval]) (by simp [Act.eval]) _ _ (HAP3.out _) ?_))
  exact HF.out
end Go.Proofs.Ytdeefemeiggolaa

namespace Go.Proofs.Ytdeefemeiggolaa
open Go.RowKit
set_option linter.unusedVariables false
set_option maxHeartbeats 8000000 in
set_option maxRecDepth 100000 in
/-- A sequence put. -/
theorem put_match (K : Nat → Prop) (w : World) (hK : ∀ k, K k → k < w.heap.size) (v : Value) (b : List By) (hb : Mine K v b w) (vp : Value) (p : List By) (hp : Sl (fun k => ¬ K k) vp p w) (hpl : p.length ≤ 10000000) (bk n : Nat) (hb1 : 1 ≤ bk) (hb2 : bk ≤ 65535) (hn1 : 4 ≤ n) (hn2 : n ≤ 10000000) (hs : b.length ≤ 100000000) :
    Calls Try.prog 59 #[v, .agg #[vp, .int .i64 bk, .int .i64 n]] w fun e w' => ∃ v', e = .returned v' ∧ Mine K v' (b ++ encS ⟨p, bk, n⟩) w' ∧ Fr (fun k => ¬ K k) w w' := by
  obtain ⟨P, hP⟩ : ∃ P : Ending → World → Prop, P = fun e w' => ∃ v', e = .returned v' ∧ Mine K v' (b ++ encS ⟨p, bk, n⟩) w' ∧ Fr (fun k => ¬ K k) w w' := ⟨_, rfl⟩
  rw [← hP]
  have HP : Hid (P = fun e w' => ∃ v', e = .returned v' ∧ Mine K v' (b ++ encS ⟨p, bk, n⟩) w' ∧ Fr (fun k => ¬ K k) w w') := hP
  clear hP
  obtain ⟨W0, hW0⟩ : ∃ W0, w.alloc (.cells #[vp, .int .i64 bk, .int .i64 n] 106) = W0 := ⟨_, rfl⟩
  have hN0 : Nw w W0 := by rw [← hW0]; exact (Fr.refl _ _).alloc _
  have hs0 : W0.heap.size = w.heap.size + 1 := by rw [← hW0]; simp
  obtain ⟨q, hq⟩ : ∃ q, w.heap.size = q := ⟨_, rfl⟩
  have hB0 : Bq q vp bk n W0 := by rw [← hW0, ← hq]; exact ⟨new_cell _ _ _ _ _ rfl, new_cell _ _ _ _ _ rfl, new_cell _ _ _ _ _ rfl⟩
  have hK1 : ∀ k, (K k ∨ k = q) → k < W0.heap.size := fun k hk => by rcases hk with hk | hk; have := hK k hk; omega; omega
  have hM0 : Mine (fun k => K k ∨ k = q) v b W0 := (hb.more (fun g hg => by rcases hg with hg | hg; exact .inl hg; exact .inr (by omega))).nw hN0
  have htk : ((16 * min p.length 15 + min (n - 4) 15 : Nat) : Int) = ((tok p.length (n - 4)).toNat : Int) := by unfold tok; rw [BitVec.toNat_ofNat]; omega
  obtain ⟨a, c, v1, W1, rfl, HAP1, HN1⟩ := mine_step _ b W0 hK1 v hM0 (by omega) (tok p.length (n - 4)) _ htk
  obtain ⟨hM1, hF1⟩ := HN1.out
  have hqK : ¬ ¬ (K q ∨ q = q) := fun h => h (.inr rfl)
  have hB1 := hB0.kept hF1 hqK
  have hFw : ∀ {V V' : World}, Fr (fun k => ¬ (K k ∨ k = q)) V V' → Fr (fun k => ¬ K k) V V' := fun h => h.mono (fun k hk => .inl (fun h => hk (.inl h)))
  have HPN : Hid (Calls Try.prog 74 #[v1, .int .i64 p.length] W1 fun e w2 => ∃ v2, e = .returned v2 ∧ Bq q vp bk n w2 ∧ ∃ v3 W3, Hid (∀ ty, (Builtin.append_ #[22, 22] ty #[v2, vp]).run Try.prog w2 = .ok v3 W3) ∧ Bq q vp bk n W3 ∧ ∃ a3 l3 c3 v4 W4, v3 = .slice a3 l3 c3 ∧ Hid (∀ ty, (Builtin.append_ #[22, 22] ty #[v3, .slice (some ⟨W3.heap.size, 0, none⟩) 2 2]).run Try.prog (W3.alloc (.cells #[.int .u8 (bk % 256 : Nat), .int .u8 (bk / 256 : Nat)] 5)) = .ok v4 W4) ∧ Hid (Calls Try.prog 74 #[v4, .int .i64 (n - 4 : Nat)] W4 fun e w5 => ∃ v5, e = .returned v5 ∧ Hid (P (.returned v5) w5))) := by
    show Calls _ _ _ _ _
    refine (putNumber_any _ W1 (fun k hk => Nat.lt_of_lt_of_le (hK1 k hk) hF1.size) v1 _ hM1 p.length (by omega) (by rw [List.length_append, List.length_singleton]; omega)).mono ?_
    rintro e w2 ⟨v2, rfl, hM2, hF2⟩
    have hB2 := hB1.kept hF2 hqK
    have hp2 : Sl (fun k => ¬ K k) vp p w2 := ((hp.nw hN0).kept hF1 (fun g hg h => hg (.inl h))).kept hF2 (fun g hg h => hg (.inl h))
    have hel : (ext p.length).length ≤ p.length + 1 := by unfold ext numb; split <;> simp; omega
    obtain ⟨v3, W3, hap, hM3, hF3⟩ := mine_app _ w2 (fun k hk => Nat.lt_of_lt_of_le (hK1 k hk) (Nat.le_trans hF1.size hF2.size)) v2 _ hM2 vp p (hp2.mono (fun _ h => h.elim)) (by rw [List.length_append, List.length_append, List.length_singleton]; omega)
    have hA : Nw W3 (W3.alloc (.cells #[.int .u8 (bk % 256 : Nat), .int .u8 (bk / 256 : Nat)] 5)) := (Fr.refl _ _).alloc _
    have htwo := two_new W3 (BitVec.ofNat 8 (bk % 256)) (BitVec.ofNat 8 (bk / 256)) (bk % 256 : Nat) (bk / 256 : Nat) (by rw [BitVec.toNat_ofNat]; omega) (by rw [BitVec.toNat_ofNat]; omega)
    have hK3 : ∀ k, (K k ∨ k = q) → k < W3.heap.size := fun k hk => Nat.lt_of_lt_of_le (hK1 k hk) (Nat.le_trans hF1.size (Nat.le_trans hF2.size hF3.size))
    have hK4 : ∀ k, (K k ∨ k = q) → k < (W3.alloc (.cells #[.int .u8 (bk % 256 : Nat), .int .u8 (bk / 256 : Nat)] 5)).heap.size := fun k hk => Nat.lt_of_lt_of_le (hK3 k hk) hA.size
    obtain ⟨v4, W4, hap4, hM4, hF4⟩ := mine_app _ (W3.alloc (.cells #[.int .u8 (bk % 256 : Nat), .int .u8 (bk / 256 : Nat)] 5)) hK4 v3 _ (hM3.nw hA) _ _ htwo (by simp only [List.length_append, List.length_cons, List.length_nil]; omega)
    obtain ⟨a3, c3, e3, _, _⟩ := hM3.sl.form
    refine ⟨v2, rfl, hB2, v3, W3, hap, hB2.kept hF3 hqK, a3, _, c3, v4, W4, e3, hap4, ?_⟩
    show Calls _ _ _ _ _
    refine (putNumber_any _ W4 (fun k hk => Nat.lt_of_lt_of_le (hK4 k hk) hF4.size) v4 _ hM4 (n - 4) (by omega) (by simp only [List.length_append, List.length_cons, List.length_nil]; omega)).mono ?_
    rintro e w5 ⟨v5, rfl, hM5, hF5⟩
    refine ⟨v5, rfl, ?_⟩
    show P _ _
    rw [HP.out]
    refine ⟨v5, rfl, ?_, (((((hN0.any.trans (hFw hF1)).trans (hFw hF2)).trans (hFw hF3)).trans hA.any).trans (hFw hF4)).trans (hFw hF5)⟩
    have e : b ++ [tok p.length (n - 4)] ++ ext p.length ++ p ++ [BitVec.ofNat 8 (bk % 256), BitVec.ofNat 8 (bk / 256)] ++ ext (n - 4) = b ++ encS ⟨p, bk, n⟩ := by unfold encS; simp
    rw [e] at hM5
    exact hM5.more (fun g hg => .inl (.inl hg))
  obtain ⟨ap, cp, rfl, _, _⟩ := hp.form
  clear htk HN1 hM1 hF1 hM0 hK1 hb hp hK HP hN0
  obtain ⟨x0, x1, x2⟩ := hB0
  obtain ⟨y0, y1, y2⟩ := hB1
  generalize hP0 : p.length = pl0 at *
  generalize hbl : b.length = bl at *
  have hmin : min (pl0 : Int) 15 = ((min pl0 15 : Nat) : Int) := by omega
  generalize hm : n - 4 = m at *
  have hz0 : max ((n : Int) - 4) 0 = (m : Int) := by omega
  have hmin0 : min (m : Int) 15 = ((min m 15 : Nat) : Int) := by omega
  have hor : bits .or .i64 ((min pl0 15 : Nat) * 16 : Int) ((min m 15 : Nat) : Int) = ((16 * min pl0 15 + min m 15 : Nat) : Int) := or_tok (min pl0 15) (min m 15) (by omega) (by omega)
  have hw8 : ((16 * min pl0 15 + min m 15 : Nat) : Int) % 256 = ((16 * min pl0 15 + min m 15 : Nat) : Int) := by omega
  have hx8 : (bk : Int) % 256 = ((bk % 256 : Nat) : Int) := by omega
  have hy8 : (bk : Int) / 256 = ((bk / 256 : Nat) : Int) := by omega
  have hy9 : ((bk / 256 : Nat) : Int) % 256 = ((bk / 256 : Nat) : Int) := by omega
  have hbz : ¬ (bk : Int) = 0 := by omega
  generalize min pl0 15 = mp at *
  generalize min m 15 = mm at *
  generalize 16 * mp + mm = T at *
  generalize bk % 256 = bx at *
  generalize bk / 256 = by' at *
  clear hP0 hbl hm
  obtain ⟨q1, hq1⟩ : ∃ q1, W0.heap.size = q1 := ⟨_, rfl⟩
  rw [hq1] at HAP1
  clear hs0
  go_enter Try.func59, Try.ntmps59
  go_wp2_with (first
    | (at_builtin; refine Lib.wpList_append_run _ rfl _ _ 22 22 rfl (.slice a bl c) (.slice (some ⟨q1, 0, none⟩) 1 1) (by simp [Act.eval]) (by simp [Act.eval]) _ _ (HAP1.out _) ?_)
    | (go_at_call 74; with_reducible refine (HPN.out).mono ?_; rintro e w2 ⟨v2, rfl, ⟨z0, z1, z2⟩, v3, W3, HAP3, ⟨t0, t1, t2⟩, a3, l3, c3, v4, W4, rfl, HAP4, HF⟩)
    | (at_builtin; refine Lib.wpList_append_run _ rfl _ _ 22 22 rfl v2 (.slice ap pl0 cp) (by simp [Act.eval]) (by simp [Act.eval]) _ _ (HAP3.out _) ?_)
    | (at_builtin; refine Lib.wpList_append_run _ rfl _ _ 22 22 rfl (.slice a3 l3 c3) (.slice (some ⟨W3.heap.size, 0, none⟩) 2 2) (by simp [Act.eval]) (by simp [Act.eval]) _ _ (HAP4.out _) ?_)
    | (go_at_call 74; with_reducible refine (HF.out).mono ?_; rintro e w5 ⟨v5, rfl, HE⟩))
  exact HE.out
end Go.Proofs.Ytdeefemeiggolaa

namespace Go.Proofs.Ytdeefemeiggolaa
open Go.RowKit
set_option linter.unusedVariables false
/-- A sequence, whatever its numbers. -/
structure Si where
  p : List By
  b : Int
  n : Int
/-- Sequences that can be read: in no block of X. -/
def SqR (X : Nat → Prop) (v : Value) (l : List Si) (w : World) : Prop := ∃ a c, v = .slice a l.length c ∧ l.length ≤ c ∧ c < 9223372036854775808 ∧ l.length ≤ 4000000000000 ∧ (l ≠ [] → ∃ g o, ¬ X g ∧ a = some ⟨g, o, none⟩ ∧ ∀ i (h : i < l.length), ∃ pa pc, w.cell? ⟨g, o + i * 3, none⟩ = some (.slice pa l[i].p.length pc) ∧ w.cell? ⟨g, o + i * 3 + 1, none⟩ = some (.int .i64 l[i].b) ∧ w.cell? ⟨g, o + i * 3 + 2, none⟩ = some (.int .i64 l[i].n) ∧ Sl X (.slice pa l[i].p.length pc) l[i].p w ∧ l[i].p.length ≤ 140737488351232)
theorem SqR.kept {X Y : Nat → Prop} {v : Value} {l : List Si} {w w' : World} (h : SqR X v l w) (f : Fr Y w w') (hx : ∀ g, Y g → X g) : SqR X v l w' := by
  obtain ⟨a, c, h1, h2, h3, h4, h5⟩ := h
  refine ⟨a, c, h1, h2, h3, h4, fun hl => ?_⟩
  obtain ⟨g, o, k1, k2, k3⟩ := h5 hl
  refine ⟨g, o, k1, k2, fun i hi => ?_⟩
  obtain ⟨pa, pc, x0, x1, x2, x3, x4⟩ := k3 i hi
  have hn : ¬ Y g := fun hy => k1 (hx g hy)
  exact ⟨pa, pc, f.cellv x0 hn, f.cellv x1 hn, f.cellv x2 hn, x3.kept f hx, x4⟩
theorem SqR.nw {X : Nat → Prop} {v : Value} {l : List Si} {w w' : World} (h : SqR X v l w) (f : Nw w w') : SqR X v l w' := h.kept f (fun _ h => h.elim)
theorem SqR.mono {X Y : Nat → Prop} {v : Value} {l : List Si} {w : World} (h : SqR X v l w) (hxy : ∀ g, Y g → X g) : SqR Y v l w := by
  obtain ⟨a, c, h1, h2, h3, h4, h5⟩ := h
  refine ⟨a, c, h1, h2, h3, h4, fun hl => ?_⟩
  obtain ⟨g, o, k1, k2, k3⟩ := h5 hl
  refine ⟨g, o, fun hy => k1 (hxy g hy), k2, fun i hi => ?_⟩
  obtain ⟨pa, pc, x0, x1, x2, x3, x4⟩ := k3 i hi
  exact ⟨pa, pc, x0, x1, x2, x3.mono hxy, x4⟩
theorem SqR.at {X : Nat → Prop} {a : Option Addr} {n c : Nat} {l : List Si} {w : World} (h : SqR X (.slice a n c) l w) (i : Nat) (hi : i < l.length) : ∃ g o pa pc, ¬ X g ∧ a = some ⟨g, o, none⟩ ∧ w.cell? ⟨g, o + i * 3, none⟩ = some (.slice pa l[i].p.length pc) ∧ w.cell? ⟨g, o + i * 3 + 1, none⟩ = some (.int .i64 l[i].b) ∧ w.cell? ⟨g, o + i * 3 + 2, none⟩ = some (.int .i64 l[i].n) ∧ Sl X (.slice pa l[i].p.length pc) l[i].p w ∧ l[i].p.length ≤ 140737488351232 := by
  obtain ⟨a', c', h1, h2, h3, h4, h5⟩ := h
  injection h1 with e1 e2 e3
  obtain ⟨g, o, k1, k2, k3⟩ := h5 (by intro e; rw [e] at hi; simp at hi)
  obtain ⟨pa, pc, x⟩ := k3 i hi
  exact ⟨g, o, pa, pc, k1, e1.trans k2, x⟩
theorem SqR.form {X : Nat → Prop} {v : Value} {l : List Si} {w : World} (h : SqR X v l w) : ∃ a c, v = .slice a l.length c ∧ l.length ≤ c ∧ c < 9223372036854775808 ∧ l.length ≤ 4000000000000 := by
  obtain ⟨a, c, h1, h2, h3, h4, _⟩ := h
  exact ⟨a, c, h1, h2, h3, h4⟩
def canI (s : Si) : Prop := 1 ≤ s.b ∧ s.b ≤ 65535 ∧ 4 ≤ s.n
/-- What a block can be made of, but for its size. -/
def CanB (l : List Si) : Prop := l ≠ [] ∧ (∀ i (h : i + 1 < l.length), canI l[i]) ∧ ∀ (h : l.length - 1 < l.length), l[l.length - 1].b = 0 ∧ l[l.length - 1].n = 0
end Go.Proofs.Ytdeefemeiggolaa

namespace Go.Proofs.Ytdeefemeiggolaa
open Go.RowKit
set_option linter.unusedVariables false
/-- How many plain bytes sequences come to. -/
def tot : List Si → Nat
  | [] => 0
  | s :: r => s.p.length + s.n.toNat + tot r
theorem tot_append (x y : List Si) : tot (x ++ y) = tot x + tot y := by
  induction x with
  | nil => simp [tot]
  | cons s r ih => simp only [List.cons_append, tot, ih]; omega
theorem tot_step (l : List Si) (I : Nat) (h : I < l.length) : tot (l.take (I + 1)) = tot (l.take I) + (l[I].p.length + l[I].n.toNat) := by
  rw [← List.take_append_getElem h, tot_append]
  simp [tot]
theorem tot_take (l : List Si) (I : Nat) : tot (l.take I) ≤ tot l := by
  conv => rhs; rw [← List.take_append_drop I l, tot_append]
  omega
theorem CanB.pos {l : List Si} (h : CanB l) (s : Si) (hs : s ∈ l) : 0 ≤ s.n := by
  obtain ⟨i, hi, rfl⟩ := List.mem_iff_getElem.1 hs
  by_cases h2 : i + 1 < l.length
  · have := (h.2.1 i h2).2.2; omega
  · have hl := h.2.2 (by omega)
    have e : l.length - 1 = i := by omega
    simp only [e] at hl
    rw [hl.2]; omega
end Go.Proofs.Ytdeefemeiggolaa

namespace Go.Proofs.Ytdeefemeiggolaa
open Go.RowKit
set_option linter.unusedVariables false
def encP (s : Si) : List By := if s.b = 0 then encL s.p else encS ⟨s.p, s.b.toNat, s.n.toNat⟩
def mkI (l : List Si) : List By := l.flatMap encP
def okI (s : Si) : Prop := (s.b = 0 ∧ s.n = 0) ∨ canI s
theorem CanB.ok {l : List Si} (h : CanB l) (s : Si) (hs : s ∈ l) : okI s := by
  obtain ⟨i, hi, rfl⟩ := List.mem_iff_getElem.1 hs
  by_cases h2 : i + 1 < l.length
  · exact .inr (h.2.1 i h2)
  · have hl := h.2.2 (by omega)
    have e : l.length - 1 = i := by omega
    simp only [e] at hl
    exact .inl hl
theorem ext_le (n : Nat) : (ext n).length ≤ n + 1 := by unfold ext numb; split <;> simp; omega
theorem encP_le (s : Si) (h : okI s) : (encP s).length ≤ 3 * (s.p.length + s.n.toNat) + 2 := by
  have h1 := ext_le s.p.length
  have h2 := ext_le (s.n.toNat - 4)
  unfold encP
  rcases h with ⟨hb, hn⟩ | ⟨hb, _, hn⟩
  · rw [if_pos hb]
    unfold encL
    simp only [List.length_cons, List.length_append]
    omega
  · rw [if_neg (by omega)]
    unfold encS
    simp only [List.length_cons, List.length_append]
    omega
theorem mkI_take (l : List Si) (I : Nat) (h : I < l.length) : mkI (l.take (I + 1)) = mkI (l.take I) ++ encP l[I] := by
  unfold mkI
  rw [← List.take_append_getElem h, List.flatMap_append]
  simp
/-- All but the last take four bytes and more. -/
theorem CanB.count {l : List Si} (h : CanB l) (I : Nat) (hI : I ≤ l.length) : 4 * I ≤ tot (l.take I) + 4 := by
  induction I with
  | zero => omega
  | succ I ih =>
    have hlt : I < l.length := by omega
    have := ih (by omega)
    rw [tot_step l I hlt]
    by_cases h2 : I + 1 < l.length
    · have := (h.2.1 I h2).2.2; omega
    · cases I with
      | zero => omega
      | succ J =>
        have hJ := ih (by omega)
        rw [tot_step l J (by omega)] at hJ ⊢
        have := (h.2.1 J (by omega)).2.2
        have e : ∀ m, m ≤ J → 4 * m ≤ tot (l.take m) := fun m => by
          induction m with
          | zero => intro _; omega
          | succ m ihm =>
            intro hm
            have := ihm (by omega)
            rw [tot_step l m (by omega)]
            have := (h.2.1 m (by omega)).2.2
            omega
        have := e J (Nat.le_refl _)
        omega
theorem mkI_le {l : List Si} (h : CanB l) (I : Nat) (hI : I ≤ l.length) : (mkI (l.take I)).length ≤ 3 * tot (l.take I) + 2 * I := by
  induction I with
  | zero => simp [mkI]
  | succ I ih =>
    have hlt : I < l.length := by omega
    have := ih (by omega)
    have := encP_le l[I] (h.ok _ (List.getElem_mem hlt))
    rw [mkI_take l I hlt, tot_step l I hlt, List.length_append]
    omega
theorem put_any (K : Nat → Prop) (w : World) (hK : ∀ k, K k → k < w.heap.size) (v : Value) (b : List By) (hb : Mine K v b w) (vp : Value) (s : Si) (hp : Sl (fun k => ¬ K k) vp s.p w) (hpl : s.p.length ≤ 10000000) (hnl : s.n ≤ 10000000) (hok : okI s) (hs : b.length ≤ 100000000) :
    Calls Try.prog 59 #[v, .agg #[vp, .int .i64 s.b, .int .i64 s.n]] w fun e w' => ∃ v', e = .returned v' ∧ Mine K v' (b ++ encP s) w' ∧ Fr (fun k => ¬ K k) w w' := by
  unfold encP
  rcases hok with ⟨h1, h2⟩ | ⟨h1, h2, h3⟩
  · rw [if_pos h1, h1, h2]
    exact put_last K w hK v b hb vp s.p hp hpl hs
  · rw [if_neg (by omega)]
    have := put_match K w hK v b hb vp s.p hp hpl s.b.toNat s.n.toNat (by omega) (by omega) (by omega) (by omega) hs
    rw [Int.toNat_of_nonneg (by omega), Int.toNat_of_nonneg (by omega)] at this
    exact this
open Classical in
/-- What Make answers. -/
noncomputable def mkR (l : List Si) : List By × Nat := if CanB l then (if tot l ≤ 4194304 then (mkI l, 0) else ([], 2)) else ([], 1)
theorem mkR_arg {l : List Si} (h : ¬ CanB l) : mkR l = ([], 1) := by unfold mkR; rw [if_neg h]
theorem mkR_long {l : List Si} (h : CanB l) (h2 : ¬ tot l ≤ 4194304) : mkR l = ([], 2) := by unfold mkR; rw [if_pos h, if_neg h2]
theorem mkR_ok {l : List Si} (h : CanB l) (h2 : tot l ≤ 4194304) : mkR l = (mkI l, 0) := by unfold mkR; rw [if_pos h, if_pos h2]
def Makd (r : List By × Nat) (w : World) (e : Ending) (w' : World) : Prop := ∃ a c, e = .returned (.tuple #[.slice a r.1.length c, .int .i64 r.2]) ∧ Mine (fun k => k < w.heap.size) (.slice a r.1.length c) r.1 w' ∧ Nw w w'
theorem Makd.none {y : Nat} {w w' : World} (h : Nw w w') : Makd ([], y) w (.returned (.tuple #[.slice none 0 0, .int .i64 y])) w' := ⟨_, _, rfl, .inl ⟨rfl, rfl⟩, h⟩
theorem nw_of {w w' : World} (h : Fr (fun k => ¬ k < w.heap.size) w w') : Nw w w' := h.mono (fun k hk => .inr (by omega))
abbrev OldS (w : World) (v : Value) (l : List Si) : Prop := SqR (fun k => w.heap.size ≤ k) v l w
end Go.Proofs.Ytdeefemeiggolaa
