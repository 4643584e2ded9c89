import Derived.Test.YtdeefemeiggolaaQa
import Derived.Test.YtdeefemeiggolaaRa
namespace Go.Proofs.Ytdeefemeiggolaa
open Go.RowKit
set_option linter.unusedVariables false
/-! ### A frame's bytes alone -/
theorem tk_tk (b : List By) (p n q m : Nat) (h : q + m ≤ n) : tk (tk b p n) q m = tk b (p + q) m := by
  unfold tk
  rw [List.drop_take, List.take_take, List.drop_drop, Nat.min_eq_left (by omega)]
theorem tk_get (b : List By) (p n q : Nat) (h : q < n) : (tk b p n)[q]? = b[p + q]? := by
  unfold tk
  rw [List.getElem?_take, if_pos h, List.getElem?_drop]
theorem headF_inv {b : List By} {q : Nat} {s : Shp} {n p1 : Nat} (h : headF b q = .ok (s, n, p1)) : ∃ f d, b[q]? = some f ∧ flg f = 0 ∧ b[q + 1]? = some d ∧ ¬ dsc d ∧ ¬ b.length < q + hl (shp f d) + 1 ∧ b[q + hl (shp f d)]? = some (hs (tk b q (hl (shp f d)))) ∧ s = shp f d ∧ n = le (tk b (q + 2) (hl (shp f d) - 2)) ∧ p1 = q + hl (shp f d) + 1 := by
  unfold headF at h
  cases hf : b[q]? with
  | none => rw [hf] at h; cases h
  | some f =>
    rw [hf] at h
    simp only at h
    split at h
    · cases h
    rename_i h1
    cases hd : b[q + 1]? with
    | none => rw [hd] at h; cases h
    | some d =>
      rw [hd] at h
      simp only at h
      split at h
      · cases h
      rename_i h2
      split at h
      · cases h
      rename_i h3
      split at h
      · cases h
      rename_i h4
      injection h with h
      injection h with h5 h
      injection h with h6 h7
      exact ⟨f, d, rfl, by omega, rfl, h2, h3, by simpa using h4, h5.symm, h6.symm, h7.symm⟩
theorem headF_mk {b : List By} {q : Nat} {f d : By} (h1 : b[q]? = some f) (h2 : flg f = 0) (h3 : b[q + 1]? = some d) (h4 : ¬ dsc d) (h5 : ¬ b.length < q + hl (shp f d) + 1) (h6 : b[q + hl (shp f d)]? = some (hs (tk b q (hl (shp f d))))) : headF b q = .ok (shp f d, le (tk b (q + 2) (hl (shp f d) - 2)), q + hl (shp f d) + 1) := by
  unfold headF
  rw [h1]
  simp only
  rw [if_neg (by omega), h3]
  simp only
  rw [if_neg h4, if_neg h5, if_neg (by rw [h6]; simp)]
theorem headF_local {b : List By} {p T : Nat} {s : Shp} {sz p1 : Nat} (hT : T ≤ b.length) (h : headF b (p + 4) = .ok (s, sz, p1)) (h1 : p1 ≤ T) : headF (tk b p (T - p)) 4 = .ok (s, sz, p1 - p) := by
  obtain ⟨f, d, g1, g2, g3, g4, g5, g6, rfl, rfl, rfl⟩ := headF_inv h
  have hh : 2 ≤ hl (shp f d) := by unfold hl; split <;> omega
  have hcl : (tk b p (T - p)).length = T - p := tk_length _ _ _ (by omega)
  have e1 : tk (tk b p (T - p)) 4 (hl (shp f d)) = tk b (p + 4) (hl (shp f d)) := tk_tk _ _ _ _ _ (by omega)
  have e2 : tk (tk b p (T - p)) (4 + 2) (hl (shp f d) - 2) = tk b (p + 4 + 2) (hl (shp f d) - 2) := by
    rw [tk_tk _ _ _ _ _ (by omega), show p + (4 + 2) = p + 4 + 2 by omega]
  have := headF_mk (b := tk b p (T - p)) (q := 4) (f := f) (d := d) (by rw [tk_get _ _ _ _ (by omega)]; exact g1) g2 (by rw [tk_get _ _ _ _ (by omega)]; exact g3) g4 (by rw [hcl]; omega) (by rw [tk_get _ _ _ _ (by omega), e1, ← Nat.add_assoc]; exact g6)
  rw [this, e2]
  congr 3
  omega
theorem ahd_drop (s : Shp) (began : Nat) (out : List By) : ahd s 0 (out.drop began) = ahd s began out := by
  unfold ahd
  split <;> simp
theorem blockF_local {b : List By} {p T most most' : Nat} {s : Shp} {began q0 : Nat} {out : List By} {q' : Nat} {out' : List By} {q : Bool} (hT : T ≤ b.length) (hm : most ≤ 4194304) (hm' : most' ≤ 4194304) (h : blockF b most s began (p + q0) out = .ok q' out' q) (hq : q' ≤ T) (hbg : began ≤ out.length) (hl : out'.length - began ≤ most') : blockF (tk b p (T - p)) most' s 0 q0 (out.drop began) = .ok (q' - p) (out'.drop began) q := by
  obtain ⟨k1, k2, k3, x, k4⟩ := blockF_ok h
  have hcl : (tk b p (T - p)).length = T - p := tk_length _ _ _ (by omega)
  have e1 : tk (tk b p (T - p)) q0 4 = tk b (p + q0) 4 := tk_tk _ _ _ _ _ (by omega)
  have e2 : tk (tk b p (T - p)) (q0 + 4) (le (tk b (p + q0) 4) % 2147483648) = tk b (p + q0 + 4) (le (tk b (p + q0) 4) % 2147483648) := by
    rw [tk_tk _ _ _ _ _ (by omega), ← Nat.add_assoc]
  have hdl : (out.drop began).length = out.length - began := by simp
  unfold blockF at h ⊢
  rw [e1, e2, ahd_drop, hcl, hdl]
  split at h
  · cases h
  rename_i h1
  rw [if_neg (by omega)]
  split at h
  · cases h
  rename_i h2
  rw [if_neg h2]
  split at h
  · cases h
  rename_i h3
  rw [if_neg h3]
  split at h
  · cases h
  rename_i h4
  rw [if_neg (by omega)]
  split at h
  · cases h
  rename_i h5
  have e3 : s.bsum = true → tk (tk b p (T - p)) (q0 + 4 + le (tk b (p + q0) 4) % 2147483648) 4 = tk b (p + q0 + 4 + le (tk b (p + q0) 4) % 2147483648) 4 := by
    intro hb
    have h4s : bs s = 4 := by unfold bs; rw [if_pos hb]
    rw [tk_tk _ _ _ _ _ (by omega)]
    congr 1; omega
  rw [if_neg (fun hx => h5 ⟨hx.1, by rw [← e3 hx.1]; exact hx.2⟩)]
  split at h
  · rename_i h6
    rw [if_pos h6]
    split at h
    · cases h
    · injection h with g1 g2 g3
      have hlen := congrArg List.length g2
      rw [List.length_append, tk_length b (p + q0 + 4) _ (by omega)] at hlen
      rw [if_neg (by omega), ← g1, ← g2, g3]
      congr 1
      · omega
      · rw [List.drop_append_of_le_length hbg]
  · rename_i h6
    rw [if_neg h6]
    simp only at h ⊢
    split at h
    · cases h
    · rename_i h7
      injection h with g1 g2 g3
      have hz : (dec (tk b (p + q0 + 4) (le (tk b (p + q0) 4) % 2147483648)) (ahd s began out) ((min (siz s) (most - out.length) : Nat) : Int)).2.2 = 0 := by omega
      have hbd := (dec_bound (tk b (p + q0 + 4) (le (tk b (p + q0) 4) % 2147483648)) (ahd s began out) ((min (siz s) (most - out.length) : Nat) : Int)).2.2 hz
      have hlen := congrArg List.length g2
      rw [List.length_append] at hlen
      rw [dec_room (m := min (siz s) (most - out.length)) (m' := min (siz s) (most' - (out.length - began))) (by omega) (by omega) hz (by omega), if_neg h7, ← g1, ← g2, g3]
      congr 1
      · omega
      · rw [List.drop_append_of_le_length hbg]
theorem blocksF_local {b : List By} {p T most most' : Nat} {s : Shp} {began q0 : Nat} {out : List By} {k q p2 : Nat} {out' : List By} {k' q' : Nat} (hT : T ≤ b.length) (hm : most ≤ 4194304) (hm' : most' ≤ 4194304) (h : blocksF b most s began (p + q0) out k q = .ok (p2, out', k', q')) (hq : p2 + 4 ≤ T) (hbg : began ≤ out.length) (hl : out'.length - began ≤ most') : blocksF (tk b p (T - p)) most' s 0 q0 (out.drop began) k q = .ok (p2 - p, out'.drop began, k', q') := by
  induction hn : b.length - (p + q0) using Nat.strongRecOn generalizing q0 out k q with
  | ind n ih =>
    have hcl : p ≤ T → (tk b p (T - p)).length = T - p := fun _ => tk_length _ _ _ (by omega)
    obtain ⟨hp2, _, y2, hy2⟩ := blocksF_ok h
    rw [blocksF_eq] at h ⊢
    cases hb : blockF b most s began (p + q0) out with
    | bad a y => rw [hb] at h; cases h
    | fin =>
      rw [hb] at h
      injection h with h
      injection h with h1 h
      injection h with h2 h
      have hfin := blockF_fin hb
      have : blockF (tk b p (T - p)) most' s 0 q0 (out.drop began) = .fin := by
        unfold blockF
        rw [if_neg (by rw [hcl (by omega)]; omega), tk_tk _ _ _ _ _ (by omega), if_pos hfin.2]
      rw [this]
      simp only
      rw [h2, h, ← h1]
      congr 2
      omega
    | ok q1 o1 pl =>
      rw [hb] at h
      obtain ⟨h1, h2, h3, x, h4⟩ := blockF_ok hb
      obtain ⟨g1, g2, y, g3⟩ := blocksF_ok h
      have hlo : o1.length ≤ out'.length := by rw [g3, List.length_append]; omega
      have hbo : began ≤ o1.length := by rw [h4, List.length_append]; omega
      rw [blockF_local hT hm hm' hb (by omega) hbg (by omega)]
      simp only
      have e : q1 = p + (q1 - p) := by omega
      rw [e] at h
      exact ih (b.length - (p + (q1 - p))) (by omega) h hbo rfl
theorem frameF_local {b : List By} {most p : Nat} {out : List By} {f : Fm} {out' : List By} (hm : most ≤ 4194304) (ho : out.length ≤ most) (h : frameF b most p out = .ok (f, out')) : frameF (tk b p (f.till - p)) f.size 0 [] = .ok ({ f with frm := 0, till := f.till - p }, out'.drop out.length) := by
  have hbnd := frameF_bound ho h
  unfold frameF at h
  cases hh : headF b (p + 4) with
  | bad a y => rw [hh] at h; cases h
  | ok r =>
    obtain ⟨s, size, p1⟩ := r
    rw [hh] at h
    simp only at h
    cases hb : blocksF b most s out.length p1 out 0 0 with
    | bad a y => rw [hb] at h; cases h
    | ok r2 =>
      obtain ⟨p2, o2, k, q⟩ := r2
      rw [hb] at h
      simp only at h
      have hhd := headF_ok hh
      obtain ⟨hp2, hp2b, x, hx⟩ := blocksF_ok hb
      have hlo : out.length ≤ o2.length := by rw [hx, List.length_append]; omega
      split at h
      · cases h
      rename_i h1
      by_cases hcs : s.csum = true
      · rw [if_pos hcs] at h
        split at h
        · cases h
        rename_i h2
        split at h
        · cases h
        rename_i h3
        injection h with h
        injection h with h4 h5
        subst h4; subst h5
        simp only
        have hl1 := headF_local (p := p) (T := p2 + 8) (by omega) hh (by omega)
        have e1 : p1 = p + (p1 - p) := by omega
        rw [e1] at hb
        have hl2 := blocksF_local (T := p2 + 8) (most' := o2.length - out.length) (by omega) hm (by omega) hb (by omega) (Nat.le_refl _) (Nat.le_refl _)
        unfold frameF
        rw [Nat.zero_add, hl1]
        simp only [List.length_nil]
        rw [List.drop_length] at hl2
        rw [hl2]
        simp only [List.length_drop, List.drop_zero, Nat.sub_zero]
        rw [if_neg h1, if_pos hcs, if_neg (by rw [tk_length _ _ _ (by omega)]; omega), tk_tk _ _ _ _ _ (by omega), show p + (p2 - p + 4) = p2 + 4 by omega, if_neg h3]
        congr 3
        omega
      · rw [if_neg hcs] at h
        injection h with h
        injection h with h4 h5
        subst h4; subst h5
        simp only
        have hl1 := headF_local (p := p) (T := p2 + 4) (by omega) hh (by omega)
        have e1 : p1 = p + (p1 - p) := by omega
        rw [e1] at hb
        have hl2 := blocksF_local (T := p2 + 4) (most' := o2.length - out.length) (by omega) hm (by omega) hb (by omega) (Nat.le_refl _) (Nat.le_refl _)
        unfold frameF
        rw [Nat.zero_add, hl1]
        simp only [List.length_nil]
        rw [List.drop_length] at hl2
        rw [hl2]
        simp only [List.length_drop, List.drop_zero, Nat.sub_zero]
        rw [if_neg h1, if_neg hcs]
        congr 3
        omega
theorem nextF_local {b : List By} {most p : Nat} {out : List By} {f : Fm} {out' : List By} (hm : most ≤ 4194304) (ho : out.length ≤ most) (h : nextF b most p out = .ok (f, out')) : nextF (tk b p (f.till - p)) f.size 0 [] = .ok ({ f with frm := 0, till := f.till - p }, out'.drop out.length) := by
  obtain ⟨h1, h2, h3, ⟨x, h4⟩, h5⟩ := nextF_ok h
  have hcl : (tk b p (f.till - p)).length = f.till - p := tk_length _ _ _ (by omega)
  have e1 : tk (tk b p (f.till - p)) 0 4 = tk b p 4 := by rw [tk_tk _ _ _ _ _ (by omega), Nat.add_zero]
  unfold nextF at h ⊢
  rw [e1, hcl]
  split at h
  · cases h
  rw [if_neg (by omega)]
  split at h
  · rename_i g1
    rw [if_pos g1]
    exact frameF_local hm ho h
  rename_i g1
  rw [if_neg g1]
  split at h
  · rename_i g2
    rw [if_pos g2]
    split at h
    · cases h
    rename_i g3
    split at h
    · cases h
    rename_i g4
    injection h with h
    injection h with h6 h7
    subst h6; subst h7
    simp only at hcl h2 h3 e1 ⊢
    have e2 : tk (tk b p (p + 8 + le (tk b (p + 4) 4) - p)) (0 + 4) 4 = tk b (p + 4) 4 := by rw [tk_tk _ _ _ _ _ (by omega), Nat.zero_add]
    rw [e2, if_neg (by omega), if_neg (by omega)]
    simp only [List.drop_length]
    congr 3
    omega
  · cases h
/-- Each frame's bytes alone come to its part. -/
theorem fdec_one {b : List By} {most p : Nat} {out : List By} {f : Fm} {out' : List By} (hm : most ≤ 4194304) (ho : out.length ≤ most) (h : nextF b most p out = .ok (f, out')) : fdec (tk b p (f.till - p)) f.size = (out'.drop out.length, f.till - p, 0) := by
  have hn := nextF_local hm ho h
  obtain ⟨h1, h2, h3, ⟨x, h4⟩, h5⟩ := nextF_ok h
  have hb := nextF_bound ho h
  have hcl : (tk b p (f.till - p)).length = f.till - p := tk_length _ _ _ (by omega)
  have hr : readF (tk b p (f.till - p)) f.size 0 [] [] = .ok (out'.drop out.length, [{ f with frm := 0, till := f.till - p }]) := by
    rw [readF_eq, if_pos (by omega), hn]
    simp only
    rw [readF_eq, if_neg (by omega)]
    rfl
  have := fdec_of (by omega) hr
  rw [this, hcl]
/-- Frames stand one behind the other. -/
def Tile (b out : List By) : Nat → Nat → List Fm → Prop
  | p, n, [] => p = b.length ∧ n = out.length
  | p, n, f :: gs => f.frm = p ∧ p < f.till ∧ f.till ≤ b.length ∧ n + f.size ≤ out.length ∧ fdec (tk b p (f.till - p)) f.size = (tk out n f.size, f.till - p, 0) ∧ Tile b out f.till (n + f.size) gs
theorem readF_tile {b : List By} {most p : Nat} {out : List By} {fs : List Fm} {out' : List By} {fs' : List Fm} (hm : most ≤ 4194304) (ho : out.length ≤ most) (hp : p ≤ b.length) (h : readF b most p out fs = .ok (out', fs')) : ∃ gs, fs' = fs ++ gs ∧ (∃ x, out' = out ++ x) ∧ Tile b out' p out.length gs := by
  induction hn : b.length - p using Nat.strongRecOn generalizing p out fs with
  | ind n ih =>
    rw [readF_eq] at h
    split at h
    · cases hb : nextF b most p out with
      | bad a y => rw [hb] at h; cases h
      | ok r =>
        obtain ⟨f, o⟩ := r
        rw [hb] at h
        obtain ⟨h1, h2, h3, ⟨x, h4⟩, h5⟩ := nextF_ok hb
        obtain ⟨gs, e1, ⟨y, e2⟩, e3⟩ := ih (b.length - f.till) (by omega) (nextF_bound ho hb) h3 h rfl
        have hsz : o.length = out.length + f.size := by rw [h5, h4, List.length_append]; omega
        have hone := fdec_one hm ho hb
        have hdr : o.drop out.length = tk out' out.length f.size := by
          unfold tk
          rw [e2, List.drop_append_of_le_length (by omega), List.take_append_of_le_length (by rw [List.length_drop]; omega), List.take_of_length_le (by rw [List.length_drop]; omega)]
        rw [hdr] at hone
        refine ⟨f :: gs, by rw [e1]; simp, ⟨x ++ y, by rw [e2, h4, List.append_assoc]⟩, h1, by omega, h3, ?_, hone, ?_⟩
        · rw [e2, List.length_append]; omega
        · rw [← hsz]; exact e3
    · injection h with h
      injection h with h1 h2
      exact ⟨[], by rw [List.append_nil]; exact h2.symm, ⟨[], by rw [List.append_nil]; exact h1.symm⟩, by omega, by rw [h1]⟩
end Go.Proofs.Ytdeefemeiggolaa
