import Derived.Test.YtdeefemeiggolaaFkBq
import Derived.Test.YtdeefemeiggolaaRa
import Derived.Test.YtdeefemeiggolaaRb
namespace Go.Proofs.Ytdeefemeiggolaa
open Go.RowKit
set_option linter.unusedVariables false
/-! ### Two slices of one's own, apart -/
def Tw (D : Nat) (va : Value) (all : List By) (vp : Value) (plain : List By) (V : World) : Prop := ∃ A B : Nat → Prop, (∀ k, A k → D ≤ k ∧ k < V.heap.size) ∧ (∀ k, B k → D ≤ k ∧ k < V.heap.size) ∧ (∀ k, A k → ¬ B k) ∧ Mine (fun k => ¬ A k) va all V ∧ Mine (fun k => ¬ B k) vp plain V
theorem Tw.start (D : Nat) (V : World) : Tw D (.slice none 0 0) [] (.slice none 0 0) [] V := ⟨fun _ => False, fun _ => False, fun k h => h.elim, fun k h => h.elim, fun k h => h.elim, Mine.nil _ _, Mine.nil _ _⟩
theorem Tw.nw {D : Nat} {va vp : Value} {all plain : List By} {V V' : World} (h : Tw D va all vp plain V) (f : Nw V V') : Tw D va all vp plain V' := by
  obtain ⟨A, B, h1, h2, h3, h4, h5⟩ := h
  have hs := f.size
  exact ⟨A, B, fun k hk => ⟨(h1 k hk).1, by have := (h1 k hk).2; omega⟩, fun k hk => ⟨(h2 k hk).1, by have := (h2 k hk).2; omega⟩, h3, h4.nw f, h5.nw f⟩
theorem Tw.swap {D : Nat} {va vp : Value} {all plain : List By} {V : World} (h : Tw D va all vp plain V) : Tw D vp plain va all V := by
  obtain ⟨A, B, h1, h2, h3, h4, h5⟩ := h
  exact ⟨B, A, h2, h1, fun k hk ha => h3 k ha hk, h5, h4⟩
theorem Tw.form {D : Nat} {va vp : Value} {all plain : List By} {V : World} (h : Tw D va all vp plain V) : ∃ a k, va = .slice a all.length k := by
  obtain ⟨A, B, h1, h2, h3, h4, h5⟩ := h
  obtain ⟨a, k, e, _, _⟩ := h4.sl.form
  exact ⟨a, k, e⟩
theorem Tw.old {D : Nat} {va vp : Value} {all plain : List By} {V : World} (h : Tw D va all vp plain V) : Old V va all := by
  obtain ⟨A, B, h1, h2, h3, h4, h5⟩ := h
  exact h4.old
/-- Bytes put behind the first. -/
theorem Tw.app {D : Nat} {va vp : Value} {all plain : List By} {V : World} (h : Tw D va all vp plain V) (hD : D ≤ V.heap.size) (x : Value) (m : List By) (hx : Sl (fun _ => False) x m V) (hb : all.length + m.length ≤ 200000000000000) :
    ∃ a' k' W, Hid (∀ ty, (Builtin.append_ #[22, 22] ty #[va, x]).run Try.prog V = .ok (.slice a' (all.length + m.length) k') W) ∧ Tw D (.slice a' (all.length + m.length) k') (all ++ m) vp plain W ∧ Fr (fun k => D ≤ k) V W := by
  obtain ⟨A, B, h1, h2, h3, h4, h5⟩ := h
  obtain ⟨v', W, hap, hM, hF⟩ := mine_app (fun k => k < V.heap.size ∧ ¬ A k) V (fun k hk => hk.1) va all (h4.more (fun k hk => .inl hk.2)) x m hx hb
  obtain ⟨a', k', e, _, _⟩ := hM.sl.form
  rw [List.length_append] at e
  subst e
  have hs := hF.size
  refine ⟨a', k', W, hap, ⟨fun k => A k ∨ (V.heap.size ≤ k ∧ k < W.heap.size), B, fun k hk => ?_, fun k hk => ⟨(h2 k hk).1, by have := (h2 k hk).2; omega⟩, fun k hk hb => ?_, ?_, ?_⟩, hF.mono (fun k hk => .inl ?_)⟩
  · rcases hk with hk | hk
    · exact ⟨(h1 k hk).1, by have := (h1 k hk).2; omega⟩
    · exact ⟨by omega, hk.2⟩
  · rcases hk with hk | hk
    · exact h3 k hk hb
    · have := (h2 k hb).2; omega
  · rcases hM with h | ⟨g, g1, g2⟩
    · exact .inl h
    · have := g2.lt
      refine .inr ⟨g, fun hx => hx ?_, g2⟩
      by_cases hg : g < V.heap.size
      · exact .inl (Classical.not_not.1 (fun ha => g1 ⟨hg, ha⟩))
      · exact .inr ⟨by omega, this⟩
  · refine h5.kept hF (fun g hg => ?_)
    by_cases hlt : g < V.heap.size
    · left
      intro hb
      exact hg ⟨hlt, fun ha => h3 g ha hb⟩
    · exact .inr (by omega)
  · by_cases hlt : k < V.heap.size
    · have ha : A k := Classical.not_not.1 (fun ha => hk ⟨hlt, ha⟩)
      exact (h1 k ha).1
    · omega
/-- A part that came in. -/
structure Prt where
  skip : Bool
  user : Int
  b : List By
  k : Int
  b1 : Bool
  b2 : Bool
  b3 : Bool
  b4 : Bool
instance : Inhabited Prt := ⟨⟨false, 0, [], 0, false, false, false, false⟩⟩
/-- A list of parts that came in. -/
def OldP (w : World) (v : Value) (l : List Prt) : Prop := ∃ a c, v = .slice a l.length c ∧ l.length ≤ c ∧ c < 9223372036854775808 ∧ (l ≠ [] → ∃ g o, a = some ⟨g, o, none⟩ ∧ g < w.heap.size ∧ ∀ (i : Nat) (t : Prt), l[i]? = some t → ∃ ba bc, w.cell? ⟨g, o + i * 8, none⟩ = some (.bool t.skip) ∧ w.cell? ⟨g, o + i * 8 + 1, none⟩ = some (.int .i64 t.user) ∧ w.cell? ⟨g, o + i * 8 + 2, none⟩ = some (.slice ba t.b.length bc) ∧ w.cell? ⟨g, o + i * 8 + 3, none⟩ = some (.int .i64 t.k) ∧ w.cell? ⟨g, o + i * 8 + 4, none⟩ = some (.bool t.b1) ∧ w.cell? ⟨g, o + i * 8 + 5, none⟩ = some (.bool t.b2) ∧ w.cell? ⟨g, o + i * 8 + 6, none⟩ = some (.bool t.b3) ∧ w.cell? ⟨g, o + i * 8 + 7, none⟩ = some (.bool t.b4) ∧ Old w (.slice ba t.b.length bc) t.b)
/-- How much parts weigh. -/
def wgt : List Prt → Nat
  | [] => 0
  | t :: r => (t.b.length + 1) + wgt r
theorem wgt_take (l : List Prt) (i : Nat) (t : Prt) (h : l[i]? = some t) : wgt (l.take (i + 1)) = wgt (l.take i) + (t.b.length + 1) := by
  induction l generalizing i with
  | nil => simp at h
  | cons x r ih =>
    cases i with
    | zero => simp at h; subst h; simp [wgt]
    | succ i =>
      have := ih i (by simpa using h)
      simp only [List.take_succ_cons, wgt, this]
      omega
theorem wgt_le (l : List Prt) (i : Nat) : wgt (l.take i) ≤ wgt l := by
  induction l generalizing i with
  | nil => simp [wgt]
  | cons x r ih =>
    cases i with
    | zero => simp [wgt]
    | succ i => have := ih i; simp only [List.take_succ_cons, wgt]; omega
theorem wgt_len (l : List Prt) : l.length ≤ wgt l := by
  induction l with
  | nil => simp [wgt]
  | cons x r ih => simp only [wgt, List.length_cons]; omega
/-- Ahead of round i. -/
def BkI (w : World) (l : List Prt) (i : Nat) (va : Value) (all : List By) (vp : Value) (plain : List By) (n : Nat) (V : World) : Prop := Tw w.heap.size va all vp plain V ∧ RB all plain n ∧ all.length ≤ 100 * wgt (l.take i) ∧ plain.length ≤ wgt (l.take i) ∧ n ≤ i ∧ Nw w V
theorem knd_pos_frame (s : Shp) (plain bl : List By) : 0 < knd (frameB s plain bl) := by
  have e : frameB s plain bl = lows 407708164 4 ++ (fhead s plain.length ++ bl ++ lows 0 4 ++ (if s.csum = true then lows (sm plain) 4 else [])) := by
    unfold frameB; simp only [List.append_assoc]
  unfold knd
  rw [e, if_neg (by rw [List.length_append, lows_length]; omega), List.take_left' (lows_length _ _), if_pos (le_lows _ 4 (by decide))]
  decide
theorem knd_pos_skip (u : Nat) (hu : u ≤ 15) (x : List By) : 0 < knd (skipB u x) := by
  have e : skipB u x = lows (407710288 + u) 4 ++ (lows x.length 4 ++ x) := by unfold skipB; simp only [List.append_assoc]
  unfold knd
  rw [e, if_neg (by rw [List.length_append, lows_length]; omega), List.take_left' (lows_length _ _), le_lows _ 4 (by omega), if_neg (by omega), if_pos (by omega)]
  decide
end Go.Proofs.Ytdeefemeiggolaa
