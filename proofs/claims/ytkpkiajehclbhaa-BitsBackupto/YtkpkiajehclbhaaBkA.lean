import Derived.Test.YtkpkiajehclbhaaBjD
import Derived.Test.YtkpkiajehclbhaaBiO
namespace Go.Proofs.Ytkpkiajehclbhaa
open Go.RowKit
set_option linter.unusedVariables false
/-! ### What was written is read -/
def stp (s : Nat × Nat) (t : Opn) : Nat × Nat := if t.kind = 0 then (s.1 + t.v * 2 ^ s.2, s.2 + t.n.toNat) else if t.kind = 1 then (s.1, up8 s.2) else if t.kind = 2 then (s.1 + le t.b * 2 ^ up8 s.2, up8 s.2 + 8 * t.b.length) else s
def okT (t : Opn) : Prop := t.kind = 0 → puts t.v t.n = true
theorem add_mul_lt {x y a b : Nat} (hx : x < 2 ^ a) (hy : y < 2 ^ b) : x + y * 2 ^ a < 2 ^ (a + b) := by
  have h3 : (y + 1) * 2 ^ a ≤ 2 ^ b * 2 ^ a := Nat.mul_le_mul_right _ hy
  rw [Nat.pow_add, Nat.mul_comm (2 ^ a)]
  rw [Nat.add_mul] at h3
  omega
theorem stp_step (s : Nat × Nat) (t : Opn) (hs : s.1 < 2 ^ s.2) (ht : okT t) : (stp s t).1 < 2 ^ (stp s t).2 ∧ s.2 ≤ (stp s t).2 ∧ (stp s t).1 % 2 ^ s.2 = s.1 := by
  obtain ⟨u1, u2, u3, u4⟩ := up8_ge s.2
  unfold stp
  by_cases h0 : t.kind = 0
  · rw [if_pos h0]
    obtain ⟨m, hm, hm32, hv⟩ := puts_yes (ht h0)
    rw [hm, Int.toNat_natCast]
    refine ⟨add_mul_lt hs hv, by simp only; omega, ?_⟩
    simp only
    rw [Nat.add_mul_mod_self_right, Nat.mod_eq_of_lt hs]
  rw [if_neg h0]
  by_cases h1 : t.kind = 1
  · rw [if_pos h1]
    exact ⟨lt_up hs u1, u1, Nat.mod_eq_of_lt hs⟩
  rw [if_neg h1]
  by_cases h2 : t.kind = 2
  · rw [if_pos h2]
    have hb : le t.b < 2 ^ (8 * t.b.length) := by rw [← pow256]; exact le_lt t.b
    refine ⟨add_mul_lt (lt_up hs u1) hb, by simp only; omega, ?_⟩
    simp only
    have e : 2 ^ up8 s.2 = 2 ^ s.2 * 2 ^ (up8 s.2 - s.2) := by rw [← Nat.pow_add]; congr 1; omega
    rw [e, ← Nat.mul_assoc, Nat.mul_comm (le t.b), Nat.mul_assoc, Nat.add_mul_mod_self_left, Nat.mod_eq_of_lt hs]
  · rw [if_neg h2]
    exact ⟨hs, Nat.le_refl _, Nat.mod_eq_of_lt hs⟩
theorem snoc_ind {α : Type} {P : List α → Prop} (l : List α) (nil : P []) (snoc : ∀ ts t, P ts → P (ts ++ [t])) : P l := by
  have : ∀ m : List α, P m.reverse := by
    intro m
    induction m with
    | nil => exact nil
    | cons x r ih => rw [List.reverse_cons]; exact snoc _ _ ih
  have h := this l.reverse
  rwa [List.reverse_reverse] at h
def runT (ts : List Opn) : Nat × Nat := ts.foldl stp (0, 0)
theorem runT_snoc (ts : List Opn) (t : Opn) : runT (ts ++ [t]) = stp (runT ts) t := by simp [runT]
theorem runT_lt (ts : List Opn) (h : ∀ t ∈ ts, okT t) : (runT ts).1 < 2 ^ (runT ts).2 := by
  revert h
  refine snoc_ind (P := fun ts => (∀ t ∈ ts, okT t) → (runT ts).1 < 2 ^ (runT ts).2) ts (fun _ => by simp [runT]) ?_
  intro ts t ih h
  rw [runT_snoc]
  exact (stp_step _ t (ih (fun x hx => h x (by simp [hx]))) (h t (by simp))).1
theorem runT_pre (ts us : List Opn) (h : ∀ t ∈ ts ++ us, okT t) : (runT ts).2 ≤ (runT (ts ++ us)).2 ∧ (runT (ts ++ us)).1 % 2 ^ (runT ts).2 = (runT ts).1 := by
  revert h
  refine snoc_ind (P := fun us => (∀ t ∈ ts ++ us, okT t) → (runT ts).2 ≤ (runT (ts ++ us)).2 ∧ (runT (ts ++ us)).1 % 2 ^ (runT ts).2 = (runT ts).1) us ?_ ?_
  · intro h
    rw [List.append_nil]
    exact ⟨Nat.le_refl _, Nat.mod_eq_of_lt (runT_lt ts (fun t ht => h t (by simpa using ht)))⟩
  · intro us t ih h
    obtain ⟨h1, h2⟩ := ih (fun x hx => h x (by
      rcases List.mem_append.1 hx with h' | h'
      · exact List.mem_append.2 (.inl h')
      · exact List.mem_append.2 (.inr (List.mem_append.2 (.inl h')))))
    rw [← List.append_assoc, runT_snoc]
    obtain ⟨k1, k2, k3⟩ := stp_step (runT (ts ++ us)) t (runT_lt _ (fun x hx => h x (by
      rcases List.mem_append.1 hx with h' | h'
      · exact List.mem_append.2 (.inl h')
      · exact List.mem_append.2 (.inr (List.mem_append.2 (.inl h')))))) (h t (by simp))
    refine ⟨by omega, ?_⟩
    have e : 2 ^ (runT (ts ++ us)).2 = 2 ^ (runT ts).2 * 2 ^ ((runT (ts ++ us)).2 - (runT ts).2) := by rw [← Nat.pow_add]; congr 1; omega
    have := Nat.mod_mul_right_mod (stp (runT (ts ++ us)) t).1 (2 ^ (runT ts).2) (2 ^ ((runT (ts ++ us)).2 - (runT ts).2))
    rw [← e, k3, h2] at this
    exact this.symm
/-- What is read at the place of one call. -/
theorem read_num (V a m v x : Nat) (h : V % 2 ^ (a + m) = x + v * 2 ^ a) (hx : x < 2 ^ a) : V / 2 ^ a % 2 ^ m = v := by
  have e := Nat.mod_mul_right_div_self V (2 ^ a) (2 ^ m)
  rw [← Nat.pow_add, h, Nat.add_mul_div_right _ _ (Nat.pow_pos (by decide)), Nat.div_eq_of_lt hx, Nat.zero_add] at e
  exact e.symm
/-- One call as it lies in memory. -/
structure Opm where
  t : Opn
  a : Option Addr
  c : Nat
def RO : RT Opm := { enc := fun x => [.int .i64 x.t.kind, .int .i64 x.t.n, .int .u32 x.t.v, .slice x.a x.t.b.length x.c], k := 4, T := 34, TS := 23, z := ⟨⟨0, 0, 0, []⟩, none, 0⟩, by_ := 48 }
theorem roOk : RO.Ok := by
  refine ⟨fun _ => rfl, by decide, fun x v hv => ?_, Try.underlying23, ?_⟩
  · simp only [RO, List.mem_cons, List.mem_nil_iff, or_false] at hv
    rcases hv with rfl | rfl | rfl | rfl <;> rfl
  · have h : (Try.prog.info? 34).map (fun i => (i.zero, i.size, i.bytes)) = some (some (.agg #[.int .i64 0, .int .i64 0, .int .u32 0, .slice none 0 0]), 4, 48) := by kernel_rfl
    cases hq : Try.prog.info? 34 with
    | none => simp [hq] at h
    | some i => simp [hq] at h; exact ⟨i, _, hq, h.1, h.2.1, h.2.2, rfl⟩
end Go.Proofs.Ytkpkiajehclbhaa
