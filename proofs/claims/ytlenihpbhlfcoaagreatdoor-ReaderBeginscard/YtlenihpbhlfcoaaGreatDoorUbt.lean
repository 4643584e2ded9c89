import Derived.Test.YtlenihpbhlfcoaaGreatDoorUbs
set_option maxHeartbeats 8000000
set_option maxRecDepth 100000
set_option linter.unusedSimpArgs false
set_option linter.unusedVariables false
namespace Go.Proofs.YtlenihpbhlfcoaaGreatDoor
set_option linter.unusedVariables false
theorem bdR_plc {s : List By} {h : Hr} {P : List Pr} {x y : It} {l : List Rg} {w : Int} {o L : Nat} (hp : bdR s h P x l w o = .got y L) : y.data = o ∧ y.next = L ∧ y.held = x.held ∧ L = o + x.held + padN x.held := by
 unfold bdR at hp
 cases hk : tkR s o x.held with
 | none => rw [hk] at hp; cases hp
 | some z =>
  obtain ⟨d, M⟩ := z
  rw [hk] at hp
  simp only at hp
  obtain ⟨k1, k2, k3⟩ := tkR_some hk
  repeat' split at hp
  all_goals first
   | (cases hp; done)
   | (injection hp with h1 h2; subst h1 h2; exact ⟨rfl, rfl, rfl, k2⟩)
theorem enR_plc {s : List By} {h : Hr} {G : List Pr} {A : Ah} {y : It} {L : Nat} (hp : enR s h G A = .got y L) : 512 ≤ y.data ∧ y.data % 512 = 0 ∧ y.next = L ∧ L = y.data + y.held + padN y.held := by
 unfold enR at hp
 split at hp
 ·cases hp
 split at hp
 ·cases hp
 split at hp
 ·cases hp
 split at hp
 ·cases hp
 split at hp
 ·split at hp
  ·cases hp
  ·split at hp
   ·cases hp
   ·rename_i hom
    obtain ⟨q1, q2, _⟩ := omR_ok _ (Nat.le_refl _) (by omega) hom
    obtain ⟨r1, r2, r3, r4⟩ := bdR_plc hp
    rw [r1, r3]; exact ⟨by omega, q2, r2, r4⟩
 ·obtain ⟨r1, r2, r3, r4⟩ := bdR_plc hp
  rw [r1, r3]; exact ⟨by omega, by omega, r2, r4⟩
theorem cor_plc {s : List By} {G : List Pr} {A : Ah} {y : It} {L : Nat} (hp : cor s G A = .got y L) : 512 ≤ y.data ∧ y.data % 512 = 0 ∧ y.next = L ∧ L = y.data + y.held + padN y.held := by
 unfold cor at hp
 repeat' split at hp
 all_goals first
  | (cases hp; done)
  | exact absurd hp psR_not
  | exact enR_plc hp
structure Plc (b : List By) (p : Nat) (x : It) (a : Nat) : Prop where
 frm : p ≤ x.frm
 head : x.frm ≤ x.head
 data : x.head < x.data
 next : x.data ≤ x.next
 fit : x.next ≤ b.length
 end_ : x.next = a
 m1 : x.frm % 512 = p % 512
 m2 : x.head % 512 = p % 512
 m3 : x.data % 512 = p % 512
 m4 : x.next % 512 = p % 512
 h1 : x.held ≤ x.next - x.data
 h2 : x.next - x.data < x.held + 512
theorem nx_plc {b : List By} {p : Nat} {G : List Pr} {x : It} {a : Nat} {G' : List Pr} (h : nx b p G ah0 none = .more x a G') : Plc b p x a := by
 obtain ⟨hd, A2, fr2, x0, L, r1, r2, r3, r4, r5, _, r7⟩ := nx_more _ (Nat.le_refl _) h
 obtain ⟨f1, f2, f3⟩ := r7 rfl
 obtain ⟨l1, l2, l3, _⟩ := cor_got r3
 obtain ⟨c1, c2, c3, c4⟩ := cor_plc r3
 rw [List.length_drop] at l3
 have hpd : padN x0.held < 512 := by unfold padN; omega
 have hpm := pad_mod x0.held
 subst r4 r5
 refine ⟨f1, f2, ?_, ?_, ?_, ?_, f3, r2, ?_, ?_, ?_, ?_⟩ <;> simp only [plI] <;> omega
theorem rd_begins (b : List By) (n : Nat) (hn : n ≤ b.length) : ∀ (k p : Nat) (G : List Pr), b.length - p ≤ k → ∃ m, (rdR (b.take n) p G).1 = (rdR b p G).1.take m ∧ ∀ (i : Nat) (x : It), (rdR b p G).1[i]? = some x → (i < m ↔ x.next ≤ n) ∧ p < x.next := by
 have hln : (b.take n).length = n := by rw [List.length_take]; omega
 have tk : ∀ a, a ≤ n → (b.take n).take a = b.take a := fun a ha => by rw [List.take_take, Nat.min_eq_left ha]
 have none_part : ∀ (p : Nat) (G : List Pr), (∀ x a G', nx b p G ah0 none = .more x a G' → n < a) → (rdR (b.take n) p G).1 = [] := fun p G hno => by
  cases hc : nx (b.take n) p G ah0 none with
  | fin a G' => rw [rdR_fin hc]
  | bad a e G' => rw [rdR_bad hc]
  | more x a G' =>
   have q := nx_end hc
   rw [hln] at q
   have := nx_loc (c := b) _ (Nat.le_refl _) hc (by omega) (tk a (by omega)).symm
   have := hno x a G' this
   omega
 intro k
 induction k with
 | zero =>
  intro p G hk
  cases hc : nx b p G ah0 none with
  | fin a G' => exact ⟨0, by rw [none_part p G (fun x a G' h => by rw [hc] at h; cases h)]; simp, fun i x h => by rw [rdR_fin hc] at h; simp at h⟩
  | bad a e G' => exact ⟨0, by rw [none_part p G (fun x a G' h => by rw [hc] at h; cases h)]; simp, fun i x h => by rw [rdR_bad hc] at h; simp at h⟩
  | more x a G' => have := nx_end hc; omega
 | succ k ih =>
  intro p G hk
  cases hc : nx b p G ah0 none with
  | fin a G' => exact ⟨0, by rw [none_part p G (fun x a G' h => by rw [hc] at h; cases h)]; simp, fun i x h => by rw [rdR_fin hc] at h; simp at h⟩
  | bad a e G' => exact ⟨0, by rw [none_part p G (fun x a G' h => by rw [hc] at h; cases h)]; simp, fun i x h => by rw [rdR_bad hc] at h; simp at h⟩
  | more x a G' =>
   have q := nx_end hc
   have hpl := nx_plc hc
   have hxn := hpl.end_
   obtain ⟨m, i1, i2⟩ := ih a G' (by omega)
   rw [rdR_more hc]
   by_cases ha : a ≤ n
   ·have hc2 := nx_loc (c := b.take n) _ (Nat.le_refl _) hc (by omega) (tk a ha)
    refine ⟨m + 1, by rw [rdR_more hc2, i1]; simp, fun i y hy => ?_⟩
    cases i with
    | zero => simp at hy; subst hy; simp; omega
    | succ i =>
     simp only [List.getElem?_cons_succ] at hy
     have := i2 i y hy
     omega
   ·refine ⟨0, by rw [none_part p G (fun x2 a2 G2 h => by rw [hc] at h; injection h with h1 h2 h3; omega)]; simp, fun i y hy => ?_⟩
    cases i with
    | zero => simp at hy; subst hy; omega
    | succ i =>
     simp only [List.getElem?_cons_succ] at hy
     have := i2 i y hy
     omega
end Go.Proofs.YtlenihpbhlfcoaaGreatDoor
