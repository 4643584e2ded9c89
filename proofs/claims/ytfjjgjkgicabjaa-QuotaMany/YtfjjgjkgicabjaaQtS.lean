import Derived.Test.YtfjjgjkgicabjaaQtO
namespace Go.Proofs.Ytfjjgjkgicabjaa
set_option linter.unusedVariables false
/-! ### Sums over places, and places in another order -/
def sm (x : Nat → Int) : Nat → Int
  | 0 => 0
  | n + 1 => sm x n + x n
theorem sm_add (x : Nat → Int) (a b : Nat) : sm x (a + b) = sm x a + sm (fun i => x (a + i)) b := by
  induction b with
  | zero => simp [sm]
  | succ b ih => rw [Nat.add_succ, sm, ih, sm, Int.add_assoc]
theorem sm_congr {x y : Nat → Int} {n : Nat} (h : ∀ i, i < n → x i = y i) : sm x n = sm y n := by
  induction n with
  | zero => rfl
  | succ n ih => rw [sm, sm, ih (fun i hi => h i (by omega)), h n (by omega)]
theorem sm_nonneg {x : Nat → Int} {n : Nat} (h : ∀ i, i < n → 0 ≤ x i) : 0 ≤ sm x n := by
  induction n with
  | zero => simp [sm]
  | succ n ih => have h1 := ih (fun i hi => h i (by omega)); have h2 := h n (by omega); rw [sm]; omega
theorem sm_mono {x : Nat → Int} {k n : Nat} (h : ∀ i, i < n → 0 ≤ x i) (hk : k ≤ n) : sm x k ≤ sm x n := by
  obtain ⟨d, rfl⟩ := Nat.exists_eq_add_of_le hk
  rw [sm_add]
  have := sm_nonneg (x := fun i => x (k + i)) (n := d) (fun i hi => h (k + i) (by omega))
  omega
theorem sm_le {x y : Nat → Int} {n : Nat} (h : ∀ i, i < n → x i ≤ y i) : sm x n ≤ sm y n := by
  induction n with
  | zero => simp [sm]
  | succ n ih => have h1 := ih (fun i hi => h i (by omega)); have h2 := h n (by omega); rw [sm, sm]; omega
theorem sm_one (n : Nat) : sm (fun _ => 1) n = n := by
  induction n with
  | zero => rfl
  | succ n ih => rw [sm, ih]; omega
/-- Turned by t. -/
theorem sm_turn (x : Nat → Int) (n t : Nat) (hn : 0 < n) : sm (fun i => x ((i + t) % n)) n = sm x n := by
  have key : ∀ t, t < n → sm (fun i => x ((i + t) % n)) n = sm x n := fun t ht => by
    have e1 : n = (n - t) + t := by omega
    have l : sm (fun i => x ((i + t) % n)) n = sm (fun i => x ((i + t) % n)) ((n - t) + t) := by rw [← e1]
    have r : sm x n = sm x (t + (n - t)) := by congr 1; omega
    rw [l, r, sm_add, sm_add x t (n - t), Int.add_comm]
    congr 1
    · exact sm_congr (fun i hi => by
        show x ((n - t + i + t) % n) = x i
        congr 1
        have : n - t + i + t = i + n := by omega
        rw [this, Nat.add_mod_right, Nat.mod_eq_of_lt (by omega)])
    · exact sm_congr (fun i hi => by
        show x ((i + t) % n) = x (t + i)
        congr 1
        rw [Nat.mod_eq_of_lt (by omega), Nat.add_comm])
  have := key (t % n) (Nat.mod_lt _ hn)
  rw [← this]
  exact sm_congr (fun i hi => by congr 1; rw [Nat.add_mod_mod])
/-- From behind. -/
theorem sm_back (x : Nat → Int) (n : Nat) : sm (fun i => x (n - 1 - i)) n = sm x n := by
  induction n with
  | zero => rfl
  | succ n ih =>
    have e : sm (fun i => x (n + 1 - 1 - i)) (n + 1) = sm (fun i => x (n + 1 - 1 - i)) (1 + n) := by rw [Nat.add_comm]
    have h1 : sm (fun i => x (n + 1 - 1 - i)) 1 = x n := by simp [sm]
    rw [e, sm_add, h1, show sm x (n + 1) = sm x n + x n from rfl, ← ih, Int.add_comm]
    congr 1
    exact sm_congr (fun i hi => by show x (n + 1 - 1 - (1 + i)) = x (n - 1 - i); congr 1; omega)
end Go.Proofs.Ytfjjgjkgicabjaa
