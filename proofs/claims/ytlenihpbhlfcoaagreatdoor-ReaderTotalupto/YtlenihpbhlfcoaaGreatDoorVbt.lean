import Derived.Test.YtlenihpbhlfcoaaGreatDoorVbs
set_option maxRecDepth 100000
set_option linter.unusedSimpArgs false
set_option linter.unusedVariables false
namespace Go.Proofs.YtlenihpbhlfcoaaGreatDoor
set_option linter.unusedVariables false
theorem psR_bad {s : List By} {h : Hr} {G : List Pr} {A : Ah} {q e : Nat} (hs : 512 ≤ s.length) (hp : psR s h G A = .bad q e) : e ≠ 0 ∧ q ≤ s.length := by
 unfold psR at hp
 split at hp
 ·injection hp with h1 h2; omega
 cases hk : tkR s 512 h.size.toNat with
 | none => rw [hk] at hp; injection hp with h1 h2; omega
 | some y =>
  obtain ⟨d, M⟩ := y
  rw [hk] at hp
  simp only at hp
  obtain ⟨k1, k2, k3⟩ := tkR_some hk
  have k4 := tkR_len hk
  have k5 := prs_le d
  split at hp
  ·split at hp
   ·rename_i h3; injection hp with h1 h2; subst h1 h2; exact ⟨h3, by omega⟩
   ·split at hp
    ·injection hp with h1 h2; omega
    ·cases hp
  ·split at hp
   ·split at hp
    ·rename_i h3; injection hp with h1 h2; subst h1 h2; exact ⟨h3, by omega⟩
    ·split at hp
     ·injection hp with h1 h2; omega
     ·cases hp
   ·split at hp <;> cases hp
theorem bdR_bad {s : List By} {h : Hr} {P : List Pr} {x : It} {l : List Rg} {w : Int} {o q e : Nat} (ho : tkR s o x.held ≠ none → o ≤ s.length) (hp : bdR s h P x l w o = .bad q e) : e ≠ 0 ∧ q ≤ s.length := by
 unfold bdR at hp
 cases hk : tkR s o x.held with
 | none => rw [hk] at hp; injection hp with h1 h2; omega
 | some y =>
  obtain ⟨d, M⟩ := y
  have ho2 := ho (by rw [hk]; simp)
  rw [hk] at hp
  simp only at hp
  split at hp
  ·split at hp
   ·cases hp
   ·injection hp with h1 h2; omega
  ·split at hp
   ·split at hp
    ·rename_i h3; injection hp with h1 h2; subst h1 h2; exact ⟨h3, by omega⟩
    ·split at hp
     ·rename_i h3; injection hp with h1 h2; subst h1 h2; exact ⟨h3, ho2⟩
     ·split at hp
      ·cases hp
      ·injection hp with h1 h2; omega
   ·cases hp
theorem tk_o {s : List By} {o z : Nat} (h : tkR s o z ≠ none) : o ≤ s.length := by
 unfold tkR at h
 split at h
 ·omega
 ·exact absurd rfl h
theorem omR_bad {s : List By} : ∀ (k : Nat) {o : Nat} {more : Bool} {l : List Rg} {q e : Nat}, s.length - o ≤ k → omR s o more l = .bad q e → e ≠ 0 ∧ q ≤ s.length := by
 intro k
 induction k with
 | zero =>
  intro o more l q e hk hp
  rw [omR] at hp
  split at hp
  ·split at hp
   ·injection hp with h1 h2; omega
   ·omega
  ·cases hp
 | succ k ih =>
  intro o more l q e hk hp
  rw [omR] at hp
  split at hp
  ·split at hp
   ·injection hp with h1 h2; omega
   ·split at hp
    ·rename_i h3; injection hp with h1 h2; subst h1 h2; exact ⟨h3, by omega⟩
    ·exact ih (by omega) hp
  ·cases hp
theorem enR_bad {s : List By} {h : Hr} {G : List Pr} {A : Ah} {q e : Nat} (hs : 512 ≤ s.length) (hp : enR s h G A = .bad q e) : e ≠ 0 ∧ q ≤ s.length := by
 unfold enR at hp
 split at hp
 ·rename_i h3; injection hp with h1 h2; subst h1 h2; exact ⟨h3, by omega⟩
 split at hp
 ·rename_i h3; injection hp with h1 h2; subst h1 h2; exact ⟨h3, by omega⟩
 split at hp
 ·rename_i h3; injection hp with h1 h2; subst h1 h2; exact ⟨h3, by omega⟩
 split at hp
 ·rename_i h3; injection hp with h1 h2; subst h1 h2; exact ⟨h3, by omega⟩
 split at hp
 ·split at hp
  ·rename_i h3; injection hp with h1 h2; subst h1 h2; exact ⟨h3, by omega⟩
  ·split at hp
   ·rename_i hom
    injection hp with h1 h2
    subst h1 h2
    exact omR_bad _ (Nat.le_refl _) hom
   ·exact bdR_bad tk_o hp
 ·exact bdR_bad tk_o hp
theorem cor_bad {s : List By} {G : List Pr} {A : Ah} {q e : Nat} (hp : cor s G A = .bad q e) : e ≠ 0 ∧ q ≤ s.length := by
 unfold cor at hp
 split at hp
 ·cases hp
 split at hp
 ·injection hp with h1 h2; omega
 rename_i a2
 split at hp
 ·cases hp
 split at hp
 ·rename_i h3
  have := decP_le (fd s 0 512)
  injection hp with h1 h2; subst h1 h2; exact ⟨h3, by omega⟩
 split at hp
 ·exact psR_bad (by omega) hp
 ·exact enR_bad (by omega) hp
theorem nx_err {b : List By} : ∀ (k : Nat) {p : Nat} {G : List Pr} {A : Ah} {fr : Option Nat} {a e : Nat} {G' : List Pr}, b.length - p ≤ k → p ≤ b.length → (∀ f, fr = some f → f ≤ p) → nx b p G A fr = .bad a e G' → e ≠ 0 ∧ a ≤ b.length := by
 intro k
 induction k with
 | zero =>
  intro p G A fr a e G' hk hpb hf h
  have hd0 : b.drop p = [] := List.drop_eq_nil_of_le (by omega)
  have hc : cor (b.drop p) G A = .fin := by rw [hd0]; rfl
  rw [nx_fin hc] at h
  cases fr with
  | none => cases h
  | some f => injection h with h1 h2 h3; have := hf f rfl; omega
 | succ k ih =>
  intro p G A fr a e G' hk hpb hf h
  cases hc : cor (b.drop p) G A with
  | fin =>
   rw [nx_fin hc] at h
   cases fr with
   | none => cases h
   | some f => injection h with h1 h2 h3; have := hf f rfl; omega
  | bad q e2 =>
   rw [nx_bad hc] at h
   injection h with h1 h2 h3
   have := cor_bad hc
   rw [List.length_drop] at this
   subst h1 h2
   exact ⟨this.1, by omega⟩
  | got x0 L => rw [nx_got hc] at h; cases h
  | on L g G2 A2 =>
   obtain ⟨l1, l2, l3, _⟩ := cor_on hc
   rw [List.length_drop] at l3
   rw [nx_on hc] at h
   refine ih (by omega) (by omega) (fun f hf2 => ?_) h
   cases g with
   | true => have := hf f (by simpa using hf2); omega
   | false =>
    cases fr with
    | none => simp at hf2; omega
    | some f0 => simp at hf2; have := hf f0 rfl; omega
theorem nx_finp {b : List By} : ∀ (k : Nat) {p : Nat} {G : List Pr} {A : Ah} {fr : Option Nat} {a : Nat} {G' : List Pr}, b.length - p ≤ k → p ≤ b.length → nx b p G A fr = .fin a G' → p ≤ a ∧ a ≤ b.length ∧ a % 512 = p % 512 := by
 intro k
 induction k with
 | zero =>
  intro p G A fr a G' hk hpb h
  have hd0 : b.drop p = [] := List.drop_eq_nil_of_le (by omega)
  have hc : cor (b.drop p) G A = .fin := by rw [hd0]; rfl
  rw [nx_fin hc] at h
  cases fr with
  | none => injection h with h1 h2; omega
  | some f => cases h
 | succ k ih =>
  intro p G A fr a G' hk hpb h
  cases hc : cor (b.drop p) G A with
  | fin =>
   rw [nx_fin hc] at h
   cases fr with
   | none => injection h with h1 h2; omega
   | some f => cases h
  | bad q e2 => rw [nx_bad hc] at h; cases h
  | got x0 L => rw [nx_got hc] at h; cases h
  | on L g G2 A2 =>
   obtain ⟨l1, l2, l3, _⟩ := cor_on hc
   rw [List.length_drop] at l3
   rw [nx_on hc] at h
   have := ih (by omega) (by omega) h
   omega
theorem bdR_plc {s : List By} {h : Hr} {P : List Pr} {x y : It} {l : List Rg} {w : Int} {o L : Nat} (hp : bdR s h P x l w o = .got y L) : y.data = o ∧ y.next = L ∧ y.held = x.held ∧ L = o + x.held + padN x.held := by
 unfold bdR at hp
 cases hk : tkR s o x.held with
 | none => rw [hk] at hp; cases hp
 | some z =>
  obtain ⟨d, M⟩ := z
  rw [hk] at hp
  simp only at hp
  obtain ⟨k1, k2, k3⟩ := tkR_some hk
  repeat' split at hp
  all_goals first
   | (cases hp; done)
   | (injection hp with h1 h2; subst h1 h2; exact ⟨rfl, rfl, rfl, k2⟩)
theorem enR_plc {s : List By} {h : Hr} {G : List Pr} {A : Ah} {y : It} {L : Nat} (hp : enR s h G A = .got y L) : 512 ≤ y.data ∧ y.data % 512 = 0 ∧ y.next = L ∧ L = y.data + y.held + padN y.held := by
 unfold enR at hp
 split at hp
 ·cases hp
 split at hp
 ·cases hp
 split at hp
 ·cases hp
 split at hp
 ·cases hp
 split at hp
 ·split at hp
  ·cases hp
  ·split at hp
   ·cases hp
   ·rename_i hom
    obtain ⟨q1, q2, _⟩ := omR_ok _ (Nat.le_refl _) (by omega) hom
    obtain ⟨r1, r2, r3, r4⟩ := bdR_plc hp
    rw [r1, r3]; exact ⟨by omega, q2, r2, r4⟩
 ·obtain ⟨r1, r2, r3, r4⟩ := bdR_plc hp
  rw [r1, r3]; exact ⟨by omega, by omega, r2, r4⟩
theorem rd_bound {b : List By} : ∀ (k : Nat) {p : Nat} {G : List Pr}, b.length - p ≤ k → p ≤ b.length → p + 512 * (rdR b p G).1.length ≤ b.length ∧ (rdR b p G).2.1 ≤ b.length ∧ ((rdR b p G).2.2.1 = 0 → p + 512 * (rdR b p G).1.length ≤ (rdR b p G).2.1) := by
 intro k
 induction k with
 | zero =>
  intro p G hk hpb
  cases hc : nx b p G ah0 none with
  | fin a G' => have := nx_finp _ (Nat.le_refl _) hpb hc; rw [rdR_fin hc]; simp; omega
  | bad a e G' => have := nx_err _ (Nat.le_refl _) hpb (fun f h => by cases h) hc; rw [rdR_bad hc]; simp; exact ⟨by omega, by omega, fun h => absurd h this.1⟩
  | more x a G' => have := nx_end hc; omega
 | succ k ih =>
  intro p G hk hpb
  cases hc : nx b p G ah0 none with
  | fin a G' => have := nx_finp _ (Nat.le_refl _) hpb hc; rw [rdR_fin hc]; simp; omega
  | bad a e G' => have := nx_err _ (Nat.le_refl _) hpb (fun f h => by cases h) hc; rw [rdR_bad hc]; simp; exact ⟨by omega, by omega, fun h => absurd h this.1⟩
  | more x a G' =>
   have q := nx_end hc
   obtain ⟨i1, i2, i3⟩ := ih (p := a) (G := G') (by omega) (by omega)
   rw [rdR_more hc]
   simp only [List.length_cons]
   exact ⟨by omega, i2, fun h => by have := i3 h; omega⟩
theorem rd_total {b c : List By} : ∀ (k : Nat) {p : Nat} {G : List Pr}, b.length - p ≤ k → p ≤ b.length → (rdR b p G).2.2.1 = 0 → (rdR b p G).2.1 < b.length → (rdR b p G).2.1 + 512 ≤ b.length ∧ ((rdR b p G).2.1 + 512 ≤ c.length → c.take ((rdR b p G).2.1 + 512) = b.take ((rdR b p G).2.1 + 512) → rdR c p G = rdR b p G) := by
 intro k
 have last : ∀ {p : Nat} {G : List Pr}, p ≤ b.length → (∀ x a G', nx b p G ah0 none ≠ .more x a G') → (rdR b p G).2.2.1 = 0 → (rdR b p G).2.1 < b.length → (rdR b p G).2.1 + 512 ≤ b.length ∧ ((rdR b p G).2.1 + 512 ≤ c.length → c.take ((rdR b p G).2.1 + 512) = b.take ((rdR b p G).2.1 + 512) → rdR c p G = rdR b p G) := by
  intro p G hp hno h0 hlt
  cases hc : nx b p G ah0 none with
  | more x a G' => exact absurd hc (hno x a G')
  | bad a e G' =>
   have := nx_err _ (Nat.le_refl _) hp (fun f h => by cases h) hc
   rw [rdR_bad hc] at h0
   exact absurd h0 this.1
  | fin a G' =>
   rw [rdR_fin hc] at hlt ⊢
   obtain ⟨q1, q2, q3⟩ := nx_locF (c := c) _ (Nat.le_refl _) hc hlt
   exact ⟨q2, fun h1 h2 => by rw [rdR_fin (q3 h1 h2)]⟩
 induction k with
 | zero =>
  intro p G hk hp h0 hlt
  refine last hp (fun x a G' hc => ?_) h0 hlt
  have := nx_end hc
  omega
 | succ k ih =>
  intro p G hk hp h0 hlt
  cases hc : nx b p G ah0 none with
  | fin a G' => exact last hp (fun x a G' h => by rw [hc] at h; cases h) h0 hlt
  | bad a e G' => exact last hp (fun x a G' h => by rw [hc] at h; cases h) h0 hlt
  | more x a G' =>
   have q2 := nx_end hc
   rw [rdR_more hc] at h0 hlt ⊢
   obtain ⟨i1, i2⟩ := ih (by omega) q2.2.1 h0 hlt
   refine ⟨i1, fun h1 h2 => ?_⟩
   have hb := rd_bound (b := b) _ (p := a) (G := G') (Nat.le_refl _) q2.2.1
   have hle := hb.2.2 h0
   simp only at h1 h2
   have hc2 := nx_loc (c := c) _ (Nat.le_refl _) hc (by omega) (by
    have := congrArg (List.take a) h2
    rw [List.take_take, List.take_take, Nat.min_eq_left (by omega)] at this
    exact this)
   rw [rdR_more hc2, i2 h1 h2]
end Go.Proofs.YtlenihpbhlfcoaaGreatDoor
