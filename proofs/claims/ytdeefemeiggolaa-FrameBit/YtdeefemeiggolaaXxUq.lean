import Derived.Test.YtdeefemeiggolaaQb
namespace Go.Proofs.Ytdeefemeiggolaa
open Go.RowKit
set_option linter.unusedVariables false

/-! ### What can be undone -/
theorem mul_undo {n : Nat} (c d : BitVec n) (h : c * d = 1#n) (x y : BitVec n) (e : x * c = y * c) : x = y := by
  have : x * c * d = y * c * d := by rw [e]
  rwa [BitVec.mul_assoc, BitVec.mul_assoc, h, BitVec.mul_one, BitVec.mul_one] at this
theorem add_undo {n : Nat} (c x y : BitVec n) (e : x + c = y + c) : x = y := by
  have : x + c - c = y + c - c := by rw [e]
  rwa [BitVec.add_sub_cancel, BitVec.add_sub_cancel] at this
theorem add_undo' {n : Nat} (c x y : BitVec n) (e : c + x = c + y) : x = y := add_undo c x y (by rw [BitVec.add_comm x, BitVec.add_comm y]; exact e)
theorem xor_undo {n : Nat} (c x y : BitVec n) (e : x ^^^ c = y ^^^ c) : x = y := by
  have : x ^^^ c ^^^ c = y ^^^ c ^^^ c := by rw [e]
  rwa [BitVec.xor_assoc, BitVec.xor_assoc, BitVec.xor_self, BitVec.xor_zero, BitVec.xor_zero] at this
theorem xor_undo' {n : Nat} (c x y : BitVec n) (e : c ^^^ x = c ^^^ y) : x = y := xor_undo c x y (by rw [BitVec.xor_comm x, BitVec.xor_comm y]; exact e)
theorem shift_undo {n : Nat} (s : Nat) (hs : 0 < s) (x y : BitVec n) (e : x ^^^ (x >>> s) = y ^^^ (y >>> s)) : x = y := by
  have key : ∀ m i, n - i ≤ m → x.getLsbD i = y.getLsbD i := by
    intro m
    induction m with
    | zero =>
      intro i hi
      rw [BitVec.getLsbD_of_ge _ _ (by omega), BitVec.getLsbD_of_ge _ _ (by omega)]
    | succ m ih =>
      intro i hi
      by_cases hn : n ≤ i
      · rw [BitVec.getLsbD_of_ge _ _ hn, BitVec.getLsbD_of_ge _ _ hn]
      have h1 := congrArg (fun z => z.getLsbD i) e
      simp only [BitVec.getLsbD_xor, BitVec.getLsbD_ushiftRight] at h1
      rw [ih (s + i) (by omega)] at h1
      cases hx : x.getLsbD i <;> cases hy : y.getLsbD i <;> cases hz : y.getLsbD (s + i) <;> simp_all
  exact BitVec.eq_of_getLsbD_eq (fun i _ => key n i (by omega))
theorem rot_undo {n : Nat} (k : Nat) (hk : k < n) (x y : BitVec n) (e : x.rotateLeft k = y.rotateLeft k) : x = y := by
  have h := congrArg BitVec.toNat e
  rw [rotl_add x k hk, rotl_add y k hk] at h
  have hp : 2 ^ n = 2 ^ (n - k) * 2 ^ k := by rw [← Nat.pow_add]; congr 1; omega
  have hx := x.isLt
  have hy := y.isLt
  have key : ∀ z : Nat, z < 2 ^ n → z * 2 ^ k % 2 ^ n = (z % 2 ^ (n - k)) * 2 ^ k ∧ z / 2 ^ (n - k) < 2 ^ k := by
    intro z hz
    constructor
    · rw [hp, Nat.mul_mod_mul_right]
    · rw [Nat.div_lt_iff_lt_mul (Nat.two_pow_pos _), Nat.mul_comm, ← hp]; exact hz
  obtain ⟨a1, a2⟩ := key _ hx
  obtain ⟨b1, b2⟩ := key _ hy
  rw [a1, b1] at h
  have hq : x.toNat / 2 ^ (n - k) = y.toNat / 2 ^ (n - k) := by
    have := congrArg (· % 2 ^ k) h
    simp only [Nat.mul_add_mod_self_right, Nat.mod_eq_of_lt a2, Nat.mod_eq_of_lt b2] at this
    exact this
  have hr : x.toNat % 2 ^ (n - k) = y.toNat % 2 ^ (n - k) := by
    rw [hq] at h
    exact Nat.eq_of_mul_eq_mul_right (Nat.two_pow_pos k) (by omega)
  apply BitVec.eq_of_toNat_eq
  rw [← Nat.div_add_mod x.toNat (2 ^ (n - k)), ← Nat.div_add_mod y.toNat (2 ^ (n - k)), hq, hr]
theorem m32_1 (x y : BitVec 32) (e : x * 2654435761#32 = y * 2654435761#32) : x = y := mul_undo 2654435761#32 244002641#32 (by decide) x y e
theorem m32_2 (x y : BitVec 32) (e : x * 2246822519#32 = y * 2246822519#32) : x = y := mul_undo 2246822519#32 3066638151#32 (by decide) x y e
theorem m32_3 (x y : BitVec 32) (e : x * 3266489917#32 = y * 3266489917#32) : x = y := mul_undo 3266489917#32 2828982549#32 (by decide) x y e
theorem m32_4 (x y : BitVec 32) (e : x * 668265263#32 = y * 668265263#32) : x = y := mul_undo 668265263#32 2701016015#32 (by decide) x y e
theorem m32_5 (x y : BitVec 32) (e : x * 374761393#32 = y * 374761393#32) : x = y := mul_undo 374761393#32 2923004241#32 (by decide) x y e
theorem m64_1 (x y : BitVec 64) (e : x * 11400714785074694791#64 = y * 11400714785074694791#64) : x = y := mul_undo 11400714785074694791#64 614540362697595703#64 (by decide) x y e
theorem m64_2 (x y : BitVec 64) (e : x * 14029467366897019727#64 = y * 14029467366897019727#64) : x = y := mul_undo 14029467366897019727#64 839798700976720815#64 (by decide) x y e
theorem m64_3 (x y : BitVec 64) (e : x * 1609587929392839161#64 = y * 1609587929392839161#64) : x = y := mul_undo 1609587929392839161#64 16855272203555305545#64 (by decide) x y e
theorem m64_4 (x y : BitVec 64) (e : x * 9650029242287828579#64 = y * 9650029242287828579#64) : x = y := mul_undo 9650029242287828579#64 15596783062780822347#64 (by decide) x y e
theorem m64_5 (x y : BitVec 64) (e : x * 2870177450012600261#64 = y * 2870177450012600261#64) : x = y := mul_undo 2870177450012600261#64 14236653164957433613#64 (by decide) x y e

theorem num_inj : ∀ (l l' : List By), l.length = l'.length → xnum l = xnum l' → l = l'
  | [], [], _, _ => rfl
  | [], _ :: _, h, _ => by simp at h
  | _ :: _, [], h, _ => by simp at h
  | b :: r, b' :: r', h, e => by
    have h1 := b.isLt
    have h2 := b'.isLt
    simp only [xnum] at e
    have hb : b.toNat = b'.toNat := by omega
    have hr : xnum r = xnum r' := by omega
    rw [BitVec.eq_of_toNat_eq hb, num_inj r r' (by simpa using h) hr]
theorem ofNat_num {n : Nat} (l l' : List By) (hl : l.length = l'.length) (hn : 256 ^ l.length ≤ 2 ^ n) (e : BitVec.ofNat n (xnum l) = BitVec.ofNat n (xnum l')) : l = l' := by
  have h1 := num_lt l
  have h2 := num_lt l'
  rw [← hl] at h2
  have := congrArg BitVec.toNat e
  rw [BitVec.toNat_ofNat, BitVec.toNat_ofNat, Nat.mod_eq_of_lt (Nat.lt_of_lt_of_le h1 hn), Nat.mod_eq_of_lt (Nat.lt_of_lt_of_le h2 hn)] at this
  exact num_inj l l' hl this
theorem foldc_inj {α : Type} (size : Nat) (f : α → List By → α) (hf : ∀ p a b, f a p = f b p → a = b) : ∀ (k : Nat) (a b : α) (l : List By), foldc size f k a l = foldc size f k b l → a = b
  | 0, a, b, l, h => h
  | k + 1, a, b, l, h => hf _ _ _ (foldc_inj size f hf k _ _ _ h)
/-- One piece of another kind, the rest alike. -/
theorem foldc_piece {α : Type} (size : Nat) (hs : 0 < size) (f : α → List By → α) (hf : ∀ p a b, f a p = f b p → a = b) (j : Nat) (a : α) (A p p' C : List By) (hA : A.length = j * size) (hp : p.length = size) (hp' : p'.length = size)
    (hne : ∀ u, f u p ≠ f u p') : foldc size f ((A ++ p ++ C).length / size) a (A ++ p ++ C) ≠ foldc size f ((A ++ p ++ C).length / size) a (A ++ p' ++ C) := by
  have hd : (A ++ p ++ C).length / size = j + (1 + C.length / size) := by
    simp only [List.length_append, hA, hp]
    rw [show j * size + size + C.length = C.length + (j + 1) * size by rw [Nat.add_mul]; omega, Nat.add_mul_div_right _ _ hs]; omega
  rw [hd, List.append_assoc, List.append_assoc, foldc_app size f j _ a A _ hA, foldc_app size f j _ a A _ hA]
  rw [foldc_app size f 1 _ _ p C (by omega), foldc_app size f 1 _ _ p' C (by omega)]
  intro e
  have := foldc_inj size f hf _ _ _ _ e
  refine hne (foldc size f j a A) ?_
  have h1 : ∀ q : List By, q.length = size → foldc size f 1 (foldc size f j a A) q = f (foldc size f j a A) q := by
    intro q hq
    show f _ (q.take size) = _
    rw [List.take_of_length_le (by omega)]
  rw [h1 p hp, h1 p' hp'] at this
  exact this

/-! ### The steps of the sums -/
theorem rd32_v (w v v' : BitVec 32) (e : rd32 v w = rd32 v' w) : v = v' := add_undo _ _ _ (rot_undo 13 (by decide) _ _ (m32_1 _ _ e))
theorem rd32_w (v w w' : BitVec 32) (e : rd32 v w = rd32 v w') : w = w' := m32_2 _ _ (add_undo' _ _ _ (rot_undo 13 (by decide) _ _ (m32_1 _ _ e)))
theorem rd64_v (w v v' : BitVec 64) (e : rd64 v w = rd64 v' w) : v = v' := add_undo _ _ _ (rot_undo 31 (by decide) _ _ (m64_1 _ _ e))
theorem rd64_w (v w w' : BitVec 64) (e : rd64 v w = rd64 v w') : w = w' := m64_2 _ _ (add_undo' _ _ _ (rot_undo 31 (by decide) _ _ (m64_1 _ _ e)))
theorem wd32_h (p : List By) (h h' : BitVec 32) (e : wd32 h p = wd32 h' p) : h = h' := add_undo _ _ _ (rot_undo 17 (by decide) _ _ (m32_4 _ _ e))
theorem wd32_p (h : BitVec 32) (p p' : List By) (e : wd32 h p = wd32 h p') : lo32 p = lo32 p' := m32_3 _ _ (add_undo' _ _ _ (rot_undo 17 (by decide) _ _ (m32_4 _ _ e)))
theorem bt32_h (p : List By) (h h' : BitVec 32) (e : bt32 h p = bt32 h' p) : h = h' := add_undo _ _ _ (rot_undo 11 (by decide) _ _ (m32_1 _ _ e))
theorem bt32_p (h : BitVec 32) (p p' : List By) (e : bt32 h p = bt32 h p') : by32 p = by32 p' := m32_5 _ _ (add_undo' _ _ _ (rot_undo 11 (by decide) _ _ (m32_1 _ _ e)))
theorem wd64_h (p : List By) (h h' : BitVec 64) (e : wd64 h p = wd64 h' p) : h = h' := xor_undo _ _ _ (rot_undo 27 (by decide) _ _ (m64_1 _ _ (add_undo _ _ _ e)))
theorem wd64_p (h : BitVec 64) (p p' : List By) (e : wd64 h p = wd64 h p') : lo64 p = lo64 p' := rd64_w _ _ _ (xor_undo' _ _ _ (rot_undo 27 (by decide) _ _ (m64_1 _ _ (add_undo _ _ _ e))))
theorem hw64_h (p : List By) (h h' : BitVec 64) (e : hw64 h p = hw64 h' p) : h = h' := xor_undo _ _ _ (rot_undo 23 (by decide) _ _ (m64_2 _ _ (add_undo _ _ _ e)))
theorem bt64_h (p : List By) (h h' : BitVec 64) (e : bt64 h p = bt64 h' p) : h = h' := xor_undo _ _ _ (rot_undo 11 (by decide) _ _ (m64_1 _ _ e))
theorem bt64_p (h : BitVec 64) (p p' : List By) (e : bt64 h p = bt64 h p') : by64 p = by64 p' := m64_5 _ _ (xor_undo' _ _ _ (rot_undo 11 (by decide) _ _ (m64_1 _ _ e)))
theorem ava32_h (h h' : BitVec 32) (e : ava32 h = ava32 h') : h = h' :=
  shift_undo 15 (by decide) _ _ (m32_2 _ _ (shift_undo 13 (by decide) _ _ (m32_3 _ _ (shift_undo 16 (by decide) _ _ e))))
theorem ava64_h (h h' : BitVec 64) (e : ava64 h = ava64 h') : h = h' :=
  shift_undo 33 (by decide) _ _ (m64_2 _ _ (shift_undo 29 (by decide) _ _ (m64_3 _ _ (shift_undo 32 (by decide) _ _ e))))
theorem fin32_h (t : List By) (h h' : BitVec 32) (e : fin32 h t = fin32 h' t) : h = h' :=
  foldc_inj 4 wd32 wd32_h _ _ _ _ (foldc_inj 1 bt32 bt32_h _ _ _ _ (ava32_h _ _ e))
theorem fin64_h (t : List By) (h h' : BitVec 64) (e : fin64 h t = fin64 h' t) : h = h' :=
  foldc_inj 8 wd64 wd64_h _ _ _ _ (foldc_inj 4 hw64 hw64_h _ _ _ _ (foldc_inj 1 bt64 bt64_h _ _ _ _ (ava64_h _ _ e)))
theorem seeds32 (l : List By) (hl : l.length < 16) (s s' : BitVec 32) : s32 s l = s32 s' l ↔ s = s' := by
  constructor
  · intro e
    unfold s32 beg32 at e
    rw [if_pos hl, if_pos hl] at e
    exact add_undo _ _ _ (add_undo _ _ _ (fin32_h _ _ _ e))
  · intro e; rw [e]
theorem seeds64 (l : List By) (hl : l.length < 32) (s s' : BitVec 64) : s64 s l = s64 s' l ↔ s = s' := by
  constructor
  · intro e
    unfold s64 beg64 at e
    rw [if_pos hl, if_pos hl] at e
    exact add_undo _ _ _ (add_undo _ _ _ (fin64_h _ _ _ e))
  · intro e; rw [e]
end Go.Proofs.Ytdeefemeiggolaa
