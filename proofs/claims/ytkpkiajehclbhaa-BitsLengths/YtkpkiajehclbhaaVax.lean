import Derived.Test.YtkpkiajehclbhaaVaw
namespace Go.Proofs.Ytkpkiajehclbhaa
open Go.RowKit
set_option linter.unusedVariables false
/-! ### Sorting: places that change -/
theorem getD_eq (xs : List Nat) (k : Nat) (h : k < xs.length) : xs.getD k 0 = xs[k] := by
  rw [List.getD_eq_getElem?_getD, List.getElem?_eq_getElem h]; rfl
theorem getD_set (xs : List Nat) (i k v : Nat) (hi : i < xs.length) : (xs.set i v).getD k 0 = if k = i then v else xs.getD k 0 := by
  rw [List.getD_eq_getElem?_getD, List.getD_eq_getElem?_getD, List.getElem?_set]
  by_cases h : k = i
  · subst h; rw [if_pos rfl, if_pos hi, if_pos rfl]; rfl
  · rw [if_neg (fun e => h e.symm), if_neg h]
/-- Two places changed. -/
def swp2 (xs : List Nat) (i j : Nat) : List Nat := (xs.set i (xs.getD j 0)).set j (xs.getD i 0)
theorem swp2_length (xs : List Nat) (i j : Nat) : (swp2 xs i j).length = xs.length := by simp [swp2]
theorem swp2_at (xs : List Nat) (i j k : Nat) (hi : i < xs.length) (hj : j < xs.length) : (swp2 xs i j).getD k 0 = if k = j then xs.getD i 0 else if k = i then xs.getD j 0 else xs.getD k 0 := by
  unfold swp2
  rw [getD_set _ _ _ _ (by simpa using hj)]
  split
  · rfl
  · rw [getD_set _ _ _ _ hi]
theorem swp2_perm (xs : List Nat) (i j : Nat) (hi : i < xs.length) (hj : j < xs.length) : (swp2 xs i j).Perm xs := by
  unfold swp2
  rw [getD_eq xs j hj, getD_eq xs i hi]
  exact List.set_set_perm hi hj
/-- Only the places from a to b have changed, among themselves. -/
structure Mv (a b : Nat) (xs ys : List Nat) : Prop where
  len : ys.length = xs.length
  out : ∀ k, (k < a ∨ b ≤ k) → ys.getD k 0 = xs.getD k 0
  inn : ∀ k, a ≤ k → k < b → ∃ j, a ≤ j ∧ j < b ∧ ys.getD k 0 = xs.getD j 0
  perm : ys.Perm xs
theorem Mv.refl (a b : Nat) (xs : List Nat) : Mv a b xs xs := ⟨rfl, fun _ _ => rfl, fun k h1 h2 => ⟨k, h1, h2, rfl⟩, List.Perm.refl _⟩
theorem Mv.trans {a b : Nat} {xs ys zs : List Nat} (h : Mv a b xs ys) (k : Mv a b ys zs) : Mv a b xs zs :=
  ⟨k.len.trans h.len, fun i hi => (k.out i hi).trans (h.out i hi), fun i h1 h2 => by
    obtain ⟨j, j1, j2, j3⟩ := k.inn i h1 h2
    obtain ⟨l, l1, l2, l3⟩ := h.inn j j1 j2
    exact ⟨l, l1, l2, j3.trans l3⟩, k.perm.trans h.perm⟩
theorem Mv.mono {a b a' b' : Nat} {xs ys : List Nat} (h : Mv a b xs ys) (ha : a' ≤ a) (hb : b ≤ b') : Mv a' b' xs ys :=
  ⟨h.len, fun i hi => h.out i (by omega), fun i h1 h2 => by
    by_cases hi : a ≤ i ∧ i < b
    · obtain ⟨j, j1, j2, j3⟩ := h.inn i hi.1 hi.2
      exact ⟨j, by omega, by omega, j3⟩
    · exact ⟨i, h1, h2, h.out i (by omega)⟩, h.perm⟩
theorem Mv.swap {a b i j : Nat} (xs : List Nat) (hb : b ≤ xs.length) (h1 : a ≤ i) (h2 : i < b) (h3 : a ≤ j) (h4 : j < b) : Mv a b xs (swp2 xs i j) :=
  ⟨swp2_length _ _ _, fun k hk => by rw [swp2_at _ _ _ _ (by omega) (by omega), if_neg (by omega), if_neg (by omega)],
   fun k k1 k2 => by
    rw [swp2_at _ _ _ _ (by omega) (by omega)]
    by_cases e1 : k = j
    · rw [if_pos e1]; exact ⟨i, h1, h2, rfl⟩
    · rw [if_neg e1]
      by_cases e2 : k = i
      · rw [if_pos e2]; exact ⟨j, h3, h4, rfl⟩
      · rw [if_neg e2]; exact ⟨k, k1, k2, rfl⟩, swp2_perm _ _ _ (by omega) (by omega)⟩
/-- Sorted from a to b. -/
def Srt (key : Nat → Int) (a b : Nat) (xs : List Nat) : Prop := ∀ p q, a ≤ p → p < q → q < b → key (xs.getD p 0) ≤ key (xs.getD q 0)
variable {key : Nat → Int}
theorem Srt.le {a b : Nat} {xs : List Nat} (h : Srt key a b xs) (p q : Nat) (h1 : a ≤ p) (h2 : p ≤ q) (h3 : q < b) : key (xs.getD p 0) ≤ key (xs.getD q 0) := by
  by_cases e : p = q
  · rw [e]; exact Int.le_refl _
  · exact h p q h1 (by omega) h3
theorem Srt.mono {a b a' b' : Nat} {xs : List Nat} (h : Srt key a b xs) (ha : a ≤ a') (hb : b' ≤ b) : Srt key a' b' xs := fun p q h1 h2 h3 => h p q (by omega) h2 (by omega)
theorem Srt.one (a : Nat) (xs : List Nat) : Srt key a (a + 1) xs := fun p q h1 h2 h3 => by omega
theorem Srt.kept {a b c d : Nat} {xs ys : List Nat} (h : Srt key a b xs) (k : Mv c d xs ys) (hd : b ≤ c ∨ d ≤ a) : Srt key a b ys := fun p q h1 h2 h3 => by
  rw [k.out p (by omega), k.out q (by omega)]; exact h p q h1 h2 h3
/-- The element at j may be too small. -/
def Ins (key : Nat → Int) (a i j : Nat) (xs : List Nat) : Prop := ∀ p q, a ≤ p → p < q → q ≤ i → q ≠ j → key (xs.getD p 0) ≤ key (xs.getD q 0)
theorem Ins.start {a i : Nat} {xs : List Nat} (h : Srt key a i xs) : Ins key a i i xs := fun p q h1 h2 h3 h4 => h p q h1 h2 (by omega)
theorem Ins.step {a i j : Nat} {xs : List Nat} (h : Ins key a i j xs) (hj : a < j) (hji : j ≤ i) (hi : i < xs.length) (hlt : key (xs.getD j 0) < key (xs.getD (j - 1) 0)) : Ins key a i (j - 1) (swp2 xs j (j - 1)) := fun p q h1 h2 h3 h4 => by
  have hq := swp2_at xs j (j - 1) q (by omega) (by omega)
  have hp := swp2_at xs j (j - 1) p (by omega) (by omega)
  rw [if_neg h4] at hq
  by_cases e1 : q = j
  · rw [if_pos e1] at hq
    rw [hq]
    by_cases e2 : p = j - 1
    · rw [if_pos e2] at hp; rw [hp]; omega
    · rw [if_neg e2, if_neg (by omega)] at hp
      rw [hp]; exact h p (j - 1) h1 (by omega) (by omega) (by omega)
  · rw [if_neg e1] at hq
    rw [hq]
    by_cases e2 : p = j - 1
    · rw [if_pos e2] at hp; rw [hp]; exact h j q (by omega) (by omega) h3 e1
    · rw [if_neg e2] at hp
      by_cases e3 : p = j
      · rw [if_pos e3] at hp; rw [hp]; exact h (j - 1) q (by omega) (by omega) h3 e1
      · rw [if_neg e3] at hp; rw [hp]; exact h p q h1 h2 h3 e1
theorem Ins.stop {a i j : Nat} {xs : List Nat} (h : Ins key a i j xs) (hs : j = a ∨ (a < j ∧ key (xs.getD (j - 1) 0) ≤ key (xs.getD j 0))) : Srt key a (i + 1) xs := fun p q h1 h2 h3 => by
  by_cases e : q = j
  · subst e
    rcases hs with hs | ⟨h5, h6⟩
    · omega
    · by_cases e2 : p = q - 1
      · rw [e2]; exact h6
      · exact Int.le_trans (h p (q - 1) h1 (by omega) (by omega) (by omega)) h6
  · exact h p q h1 h2 (by omega) e
/-! Places as they are exchanged. -/
/-- Where the element at k comes from when [a, m) and [m, b) change places. -/
def rt (a m b k : Nat) : Nat := if a ≤ k ∧ k < a + (b - m) then k + (m - a) else if a + (b - m) ≤ k ∧ k < b then k - (b - m) else k
/-- And when the n places from a on and those from b on do. -/
def sw (a b n k : Nat) : Nat := if a ≤ k ∧ k < a + n then k + (b - a) else if b ≤ k ∧ k < b + n then k - (b - a) else k
/-- ys is xs with its places changed. -/
def Pl (f : Nat → Nat) (xs ys : List Nat) : Prop := ∀ k, ys.getD k 0 = xs.getD (f k) 0
theorem Pl.trans {f g : Nat → Nat} {xs ys zs : List Nat} (h : Pl f xs ys) (k : Pl g ys zs) : Pl (fun i => f (g i)) xs zs := fun i => by rw [k i, h (g i)]
theorem Pl.congr {f g : Nat → Nat} {xs ys : List Nat} (h : Pl f xs ys) (e : ∀ k, f k = g k) : Pl g xs ys := fun i => by rw [h i, e i]
theorem Pl.swap (xs : List Nat) (i j : Nat) (hi : i < xs.length) (hj : j < xs.length) : Pl (fun k => if k = j then i else if k = i then j else k) xs (swp2 xs i j) := fun k => by
  rw [swp2_at _ _ _ _ hi hj]
  by_cases e1 : k = j
  · simp only [if_pos e1]
  · by_cases e2 : k = i
    · simp only [if_neg e1, if_pos e2]
    · simp only [if_neg e1, if_neg e2]
theorem sw_step (a b n k : Nat) (hab : a + n < b) : sw a b n (if k = b + n then a + n else if k = a + n then b + n else k) = sw a b (n + 1) k := by
  unfold sw
  by_cases e1 : k = b + n
  · rw [if_pos e1, if_neg (by omega), if_neg (by omega), if_neg (by omega), if_pos (by omega)]; omega
  · rw [if_neg e1]
    by_cases e2 : k = a + n
    · rw [if_pos e2, if_neg (by omega), if_neg (by omega), if_pos (by omega)]; omega
    · rw [if_neg e2]
      split
      · rw [if_pos (by omega)]
      · split
        · rw [if_neg (by omega), if_pos (by omega)]
        · rw [if_neg (by omega), if_neg (by omega)]
theorem rot_left (m i j k : Nat) (him : i ≤ m) (hj : j < i) : sw (m - i) m j (rt (m - (i - j)) m (m + j) k) = rt (m - i) m (m + j) k := by
  unfold rt sw
  split
  · split
    · split <;> (try split) <;> omega
    · split
      · split <;> (try split) <;> omega
      · split <;> (try split) <;> omega
  · split
    · split
      · split <;> (try split) <;> omega
      · split
        · split <;> (try split) <;> omega
        · split <;> (try split) <;> omega
    · split
      · split <;> (try split) <;> omega
      · split
        · split <;> (try split) <;> omega
        · split <;> (try split) <;> omega
theorem rot_right (m i j k : Nat) (him : i ≤ m) (hj : i < j) : sw (m - i) (m + j - i) i (rt (m - i) m (m + (j - i)) k) = rt (m - i) m (m + j) k := by
  unfold rt sw
  split
  · split
    · split <;> (try split) <;> omega
    · split
      · split <;> (try split) <;> omega
      · split <;> (try split) <;> omega
  · split
    · split
      · split <;> (try split) <;> omega
      · split
        · split <;> (try split) <;> omega
        · split <;> (try split) <;> omega
    · split
      · split <;> (try split) <;> omega
      · split
        · split <;> (try split) <;> omega
        · split <;> (try split) <;> omega
theorem rot_end (m i k : Nat) (him : i ≤ m) : sw (m - i) m i k = rt (m - i) m (m + i) k := by
  unfold rt sw
  split
  · rw [if_pos (by omega)]
  · split
    · rw [if_neg (by omega), if_pos (by omega)]; omega
    · rw [if_neg (by omega), if_neg (by omega)]
/-- One place on, by a change of neighbours. -/
theorem rt_up (a k x : Nat) (h : a ≤ k) : rt a (a + 1) (k + 1) (if x = k + 1 then k else if x = k then k + 1 else x) = rt a (a + 1) (k + 2) x := by
  unfold rt
  by_cases e1 : x = k + 1
  · rw [if_pos e1]
    split <;> (try split) <;> (try split) <;> (try split) <;> omega
  · rw [if_neg e1]
    by_cases e2 : x = k
    · rw [if_pos e2]
      split <;> (try split) <;> (try split) <;> (try split) <;> omega
    · rw [if_neg e2]
      split <;> (try split) <;> (try split) <;> (try split) <;> omega
theorem rt_down (k m x : Nat) (h1 : 0 < k) (h2 : k ≤ m) : rt k m (m + 1) (if x = k - 1 then k else if x = k then k - 1 else x) = rt (k - 1) m (m + 1) x := by
  unfold rt
  by_cases e1 : x = k - 1
  · rw [if_pos e1]
    split <;> (try split) <;> (try split) <;> (try split) <;> omega
  · rw [if_neg e1]
    by_cases e2 : x = k
    · rw [if_pos e2]
      split <;> (try split) <;> (try split) <;> (try split) <;> omega
    · rw [if_neg e2]
      split <;> (try split) <;> (try split) <;> (try split) <;> omega
theorem rt_one (a x : Nat) : rt a (a + 1) (a + 1) x = x := by
  unfold rt
  split <;> (try split) <;> omega
theorem rt_one' (m x : Nat) : rt m m (m + 1) x = x := by
  unfold rt
  split <;> (try split) <;> omega
/-- What symMerge does to two sorted parts: they change places where they must, and then each half has two sorted parts, and the first lies below the second. -/
theorem merge_split {a m b s e mid : Nat} {xs ys : List Nat} (h1 : Srt key a m xs) (h2 : Srt key m b xs) (hp : Pl (rt s m e) xs ys) (q1 : a ≤ s) (q2 : s ≤ m) (q3 : m ≤ e) (q4 : e ≤ b) (q5 : s + (e - m) = mid)
    (hA : ∀ x y, a ≤ x → x < s → e ≤ y → y < b → key (xs.getD x 0) ≤ key (xs.getD y 0)) (hB : ∀ x y, m ≤ x → x < e → s ≤ y → y < m → key (xs.getD x 0) ≤ key (xs.getD y 0)) :
    Srt key a s ys ∧ Srt key s mid ys ∧ Srt key mid e ys ∧ Srt key e b ys ∧ ∀ x y, a ≤ x → x < mid → mid ≤ y → y < b → key (ys.getD x 0) ≤ key (ys.getD y 0) := by
  have f1 : ∀ k, k < s → rt s m e k = k := fun k hk => by unfold rt; rw [if_neg (by omega), if_neg (by omega)]
  have f2 : ∀ k, s ≤ k → k < mid → rt s m e k = k + (m - s) := fun k hk hk2 => by unfold rt; rw [if_pos (by omega)]
  have f3 : ∀ k, mid ≤ k → k < e → rt s m e k = k - (e - m) := fun k hk hk2 => by unfold rt; rw [if_neg (by omega), if_pos (by omega)]
  have f4 : ∀ k, e ≤ k → rt s m e k = k := fun k hk => by unfold rt; rw [if_neg (by omega), if_neg (by omega)]
  refine ⟨fun p q p1 p2 p3 => ?_, fun p q p1 p2 p3 => ?_, fun p q p1 p2 p3 => ?_, fun p q p1 p2 p3 => ?_, fun x y x1 x2 y1 y2 => ?_⟩
  · rw [hp p, hp q, f1 p (by omega), f1 q p3]; exact h1 p q p1 p2 (by omega)
  · rw [hp p, hp q, f2 p p1 (by omega), f2 q (by omega) p3]; exact h2 _ _ (by omega) (by omega) (by omega)
  · rw [hp p, hp q, f3 p p1 (by omega), f3 q (by omega) p3]; exact h1 _ _ (by omega) (by omega) (by omega)
  · rw [hp p, hp q, f4 p p1, f4 q (by omega)]; exact h2 _ _ (by omega) (by omega) (by omega)
  · rw [hp x, hp y]
    by_cases ex : x < s
    · rw [f1 x ex]
      by_cases ey : y < e
      · rw [f3 y y1 ey]; exact h1.le _ _ x1 (by omega) (by omega)
      · rw [f4 y (by omega)]; exact hA x y x1 ex (by omega) y2
    · rw [f2 x (by omega) x2]
      by_cases ey : y < e
      · rw [f3 y y1 ey]; exact hB _ _ (by omega) (by omega) (by omega) (by omega)
      · rw [f4 y (by omega)]; exact h2.le _ _ (by omega) (by omega) y2
theorem halves {a mid b : Nat} {xs ys zs : List Nat} (hx : ∀ x y, a ≤ x → x < mid → mid ≤ y → y < b → key (xs.getD x 0) ≤ key (xs.getD y 0)) (h1 : Mv a mid xs ys) (h2 : Mv mid b ys zs) (s1 : Srt key a mid ys) (s2 : Srt key mid b zs) : Srt key a b zs := fun p q p1 p2 p3 => by
  by_cases e1 : q < mid
  · rw [h2.out p (by omega), h2.out q (by omega)]; exact s1 p q p1 p2 e1
  · by_cases e2 : mid ≤ p
    · exact s2 p q e2 p2 p3
    · rw [h2.out p (by omega)]
      obtain ⟨j, j1, j2, j3⟩ := h2.inn q (by omega) p3
      obtain ⟨i, i1, i2, i3⟩ := h1.inn p p1 (by omega)
      rw [j3, i3, h1.out j (by omega)]
      exact hx i j i1 i2 j1 j2
end Go.Proofs.Ytkpkiajehclbhaa
