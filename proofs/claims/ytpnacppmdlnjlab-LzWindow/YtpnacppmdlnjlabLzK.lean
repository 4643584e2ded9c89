import Derived.Test.YtpnacppmdlnjlabLzJ
namespace Go.Proofs.Ytpnacppmdlnjlab
open Go.RowKit
set_option linter.unusedVariables false
/-- What match appends first, out of ahead. -/
theorem first_part (ahead s : List By) (back n : Nat) (h1 : s.length < back) (h2 : back ≤ ahead.length + s.length) (hn : n ≤ back - s.length) :
    Per (ahead ++ s) back (ahead ++ (s ++ (ahead.drop (ahead.length - (back - s.length))).take n)) := by
  rw [← List.append_assoc]
  refine (Per.refl (ahead ++ s) back).app (fun i hi => ?_)
  have hi' : i < n := by simp at hi; omega
  rw [List.getElem?_append_left (by simp; omega), List.getElem?_append_left (by simp; omega), List.getElem?_take, if_pos hi', List.getElem?_drop]
  congr 1
  simp; omega
/-- What the loop of match appends. -/
theorem loop_part (ahead s out : List By) (back m fr n : Nat) (hb : 1 ≤ back) (hb2 : back ≤ (ahead ++ s).length) (hp : Per (ahead ++ s) back (ahead ++ out)) (hm : 1 ≤ m) (hl : out.length = fr + m * back) (hs : s.length ≤ fr + back) (hn : n ≤ out.length - fr) :
    Per (ahead ++ s) back (ahead ++ (out ++ (out.drop fr).take n)) := by
  rw [← List.append_assoc]
  refine hp.app (fun i hi => ?_)
  have hi' : i < n := by simp at hi; omega
  have hle := hp.le
  rw [List.length_append, List.length_append] at hle
  obtain ⟨t, rfl⟩ : ∃ t, m = t + 1 := ⟨m - 1, by omega⟩
  rw [Nat.add_mul, Nat.one_mul] at hl
  rw [List.getElem?_take, if_pos hi', List.getElem?_drop]
  have e1 : out[fr + i]? = (ahead ++ out)[ahead.length + fr + i]? := by
    rw [List.getElem?_append_right (by omega)]; congr 1; omega
  rw [e1]
  have e2 : (ahead ++ out).length + i - back = (ahead.length + fr + i) + t * back := by rw [List.length_append]; omega
  rw [e2]
  by_cases hlt : ahead.length + fr + i + t * back < (ahead ++ out).length
  · rw [List.getElem?_append_left hlt, hp.times _ t (by rw [List.length_append]; omega) hlt hb]
  · rw [List.length_append] at hlt
    have hn' : n ≤ out.length - fr := hn
    rw [List.getElem?_append_right (l₁ := ahead ++ out) (by rw [List.length_append]; omega), List.getElem?_take, if_pos (by rw [List.length_append]; omega), List.getElem?_drop]
    have e3 : out[fr + (ahead.length + fr + i + t * back - (ahead ++ out).length)]? = (ahead ++ out)[ahead.length + fr + i - back]? := by
      rw [List.getElem?_append_right (by omega)]; congr 1; rw [List.length_append]; omega
    rw [e3]
    exact hp.per _ (by rw [List.length_append]; omega) (by rw [List.length_append]; omega)
/-- How the loop of match stands. -/
structure MI (D pb : Nat) (va : Value) (ahead : List By) (most : Nat) (s : List By) (back n fr : Nat) (K : Nat → Prop) (w : World) (out : List By) (len : Nat) (wr : World) : Prop where
  pi : PI D pb va ahead most out K wr
  ff : Fr (fun k => ¬ K k) w wr
  per : Per (ahead ++ s) back (ahead ++ out)
  sum : out.length + len = s.length + n
  m : 0 < len → ∃ m, 1 ≤ m ∧ out.length = fr + m * back
  lo : 0 < len → s.length ≤ fr + back
theorem MI.nw {D pb : Nat} {va : Value} {ahead : List By} {most : Nat} {s : List By} {back n fr : Nat} {K : Nat → Prop} {w : World} {out : List By} {len : Nat} {wr V : World} (h : MI D pb va ahead most s back n fr K w out len wr) (f : Nw wr V) : MI D pb va ahead most s back n fr K w out len V :=
  ⟨h.pi.grow f (fun k hk => .inl hk), h.ff.trans f.any, h.per, h.sum, h.m, h.lo⟩
/-- A round. -/
theorem MI.round {D pb : Nat} {va : Value} {ahead : List By} {most : Nat} {s : List By} {back n fr : Nat} {K : Nat → Prop} {w : World} {out : List By} {len : Nat} {wr : World} (h : MI D pb va ahead most s back n fr K w out len wr) (hb : 1 ≤ back) (hb2 : back ≤ (ahead ++ s).length) (hD : ∀ k, k < D → K k) (hK : ∀ k, K k → k < w.heap.size) (hsn : s.length + n ≤ most) (hlen : 0 < len) :
    ∃ g c v' W u, wr.cell? ⟨pb, 1, none⟩ = some (.slice (some ⟨g, 0, none⟩) out.length c) ∧ fr < out.length ∧ out.length ≤ c ∧ c < 9223372036854775808 ∧ W.cell? ⟨pb, 1, none⟩ = some u ∧ W.frozen? ⟨pb, 1, none⟩ = false ∧
      Hid (∀ ty, (Builtin.append_ #[22, 22] ty #[.slice (some ⟨g, 0, none⟩) out.length c, .slice (some ⟨g, fr, none⟩) (min len (out.length - fr)) (c - fr)]).run Try.prog wr = .ok v' W) ∧ (∃ a l c, v' = .slice a l c) ∧
      Hid (∀ V, Nw (W.setCell ⟨pb, 1, none⟩ v') V → ∃ out', out'.length = out.length + min len (out.length - fr) ∧ MI D pb va ahead most s back n fr K w out' (len - min len (out.length - fr)) V) := by
  obtain ⟨vo, h1, h2⟩ := h.pi.out
  obtain ⟨m, hm, hol⟩ := h.m hlen
  have hlo := h.lo hlen
  have hsum := h.sum
  have hlm := h.pi.lm
  have hfr : fr < out.length := by
    have : 1 * 1 ≤ m * back := Nat.mul_le_mul hm hb
    omega
  rcases h2 with ⟨_, rfl⟩ | ⟨g, hg, hO⟩
  · simp at hfr
  have hO' := hO
  obtain ⟨xs, rfl, x2, x3, x4, x5⟩ := hO'
  generalize hc : xs.length = c at *
  obtain ⟨q, hq⟩ : ∃ q, q = min len (out.length - fr) := ⟨_, rfl⟩
  rw [← hq]
  have hql : q ≤ out.length - fr := by omega
  have hpl : ((out.drop fr).take q).length = q := by simp; omega
  have hsl : Sl (fun _ => False) (.slice (some ⟨g, fr, none⟩) q (c - fr)) ((out.drop fr).take q) wr := by
    obtain ⟨o1, c1, e1, _, _, hrd⟩ := hO.slb
    injection e1 with e1 _ e3
    injection e1 with e1
    injection e1 with _ e1
    subst e1
    refine .inr ⟨g, fun h => h, fr, c - fr, by rw [hpl], by rw [hpl]; omega, by omega, ?_⟩
    have := (hrd.drop fr).take q
    rw [Nat.zero_add] at this; exact this
  have hlt := h.pi.lt
  obtain ⟨v', W, hap, hM, hF⟩ := mine_app (fun k => K k ∨ k = pb) wr (fun k hk => by rcases hk with hk | hk; exact Nat.lt_of_lt_of_le (hK k hk) h.ff.size; omega) _ out (.inr ⟨g, hg, hO⟩) _ _ hsl (by rw [hpl]; omega)
  obtain ⟨k1, k2, ⟨u1, k3⟩, k4⟩ := h.pi.put hD hF hM (by rw [List.length_append, hpl]; omega)
  have hform := hM.sl.form
  refine ⟨g, c, v', W, u1, h1, hfr, x3, x4, k3, k4, hap, ?_, ?_⟩
  · obtain ⟨a, c, h, _⟩ := hform
    exact ⟨_, _, _, h⟩
  · intro V hV
    refine ⟨out ++ (out.drop fr).take q, by rw [List.length_append, hpl], ⟨k1.grow hV (fun k hk => .inl hk), (h.ff.trans k2).trans hV.any, loop_part ahead s out back m fr q hb hb2 h.per hm hol hlo hql, ?_, ?_, fun _ => hlo⟩⟩
    · rw [List.length_append, hpl]; omega
    · intro hl
      have hqe : q = out.length - fr := by omega
      refine ⟨2 * m, by omega, ?_⟩
      rw [List.length_append, hpl, Nat.mul_assoc, Nat.two_mul]; omega
/-- At the end. -/
theorem MI.done {D pb : Nat} {va : Value} {ahead : List By} {most : Nat} {s : List By} {back n fr : Nat} {K : Nat → Prop} {w : World} {out : List By} {wr : World} (h : MI D pb va ahead most s back n fr K w out 0 wr) (hb : 1 ≤ back) (hb2 : back ≤ (ahead ++ s).length) : PI D pb va ahead most ((pl ahead most).mat s back n) K wr := by
  have e := h.per.cop hb hb2 n (by rw [List.length_append, List.length_append]; have := h.sum; omega)
  have e2 := pl_mat ahead most s back n hb (by rw [← List.length_append]; exact hb2)
  have e3 : out = (pl ahead most).mat s back n := by
    rw [← e] at e2
    exact (List.append_cancel_left e2).symm
  rw [← e3]; exact h.pi
end Go.Proofs.Ytpnacppmdlnjlab
