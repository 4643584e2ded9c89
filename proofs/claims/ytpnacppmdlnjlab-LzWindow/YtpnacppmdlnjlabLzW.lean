import Derived.Test.YtpnacppmdlnjlabLzV
namespace Go.Proofs.Ytpnacppmdlnjlab
open Go.RowKit
set_option linter.unusedVariables false
/-- What the document's Decode answers. -/
def RDecd (r : List By × Nat × Nat) (w : World) (e : Ending) (w' : World) : Prop :=
  ∃ a c, e = .returned (.tuple #[.slice a r.1.length c, .int .i64 r.2.1, .int .i64 r.2.2]) ∧ Sl (fun k => k < w.heap.size ∨ w'.heap.size ≤ k) (.slice a r.1.length c) r.1 w' ∧ Nw w w'
theorem RDecd.none {x y : Nat} {w w' : World} (h : Nw w w') : RDecd ([], x, y) w (.returned (.tuple #[.slice none 0 0, .int .i64 x, .int .i64 y])) w' := ⟨_, _, rfl, .inl ⟨_, rfl, rfl⟩, h⟩
/-- The plain bytes put behind. -/
theorem rdec_app (w wr w1 : World) (hw : Nw w wr) (h1 : Nw wr w1) (g : Nat) (v : Value) (l : List By) (hg : w.heap.size ≤ g) (hO : Ow g v l wr) (x : Value) (p : List By) (hx : Sl (fun _ => False) x p w) (hb : l.length + p.length ≤ 1000000000) (cs : Array Value) (t : TypeId) :
    ∃ g' c' W2, Hid (∀ ty, (Builtin.append_ #[22, 22] ty #[v, x]).run Try.prog (w1.alloc (.cells cs t)) = .ok (.slice (some ⟨g', 0, none⟩) (l ++ p).length c') W2) ∧ Hid (Ow g' (.slice (some ⟨g', 0, none⟩) (l ++ p).length c') (l ++ p) W2) ∧ Hid (Nw w W2) ∧ w.heap.size ≤ g' ∧ (l ++ p).length ≤ c' ∧ c' < 9223372036854775808 ∧ Hid (∀ j v, cs[j]? = some v → W2.cell? ⟨w1.heap.size, j, none⟩ = some v) := by
  have hN1 : Nw w1 (w1.alloc (.cells cs t)) := (Fr.refl _ _).alloc _
  have hsz : (w1.alloc (.cells cs t)).heap.size = w1.heap.size + 1 := by simp
  have hs := (hw.trans h1).size
  have hgl := hO.lt
  have hs1 := h1.size
  obtain ⟨v', g', W2, hap, hM2, hF, hg'⟩ := app_any (w1.alloc (.cells cs t)) g v l (hO.nw (h1.trans hN1)) x p (hx.nw ((hw.trans h1).trans hN1)) (by omega)
  have hM2' := hM2
  obtain ⟨xs, rfl, _, x3, x4, _⟩ := hM2'
  refine ⟨g', xs.length, W2, hap, hM2, Fr.then ((hw.trans h1).trans hN1) hF (fun i hi => .inr (by omega)), ?_, x3, x4, fun j v hv => ?_⟩
  · rcases hg' with h | h <;> omega
  · exact hF.cellv (new_cell _ _ _ _ _ hv) (by show ¬ w1.heap.size = g; omega)
/-- How the loop stands. -/
structure RI (w : World) (b W : List By) (m : Nat) (i : Nat) (s : List By) (g c : Nat) (wr : World) : Prop where
  own : Ow g (.slice (some ⟨g, 0, none⟩) (W ++ s).length c) (W ++ s) wr
  base : w.heap.size ≤ g
  nw : Nw w wr
  le : i ≤ b.length
  sl : s.length ≤ m
  sc : scanS (pl W m) b.length b [] = scanS (pl W m) b.length (b.drop i) s
theorem matchS_at {σ : Type} (T : Tk σ) (b : List By) (lo t : Nat) (s : σ) (hy : t + 1 < b.length) : matchS T b.length lo (b.drop t) s = if b[t].toNat + 256 * b[t + 1].toNat = 0 ∨ T.reaches s (b[t].toNat + 256 * b[t + 1].toNat) = false then .bad t 30 else match num lo (b.drop (t + 2)) with
      | none => .bad b.length 4
      | some (n, k) => if T.room s (n + 4) = false then .bad t 32 else .ok ((b.drop (t + 2)).drop k) (T.mat s (b[t].toNat + 256 * b[t + 1].toNat) (n + 4)) := by
  have hdr : b.drop t = b[t] :: b[t + 1] :: b.drop (t + 2) := by rw [List.drop_eq_getElem_cons (by omega), List.drop_eq_getElem_cons hy]
  have e : b.length - (b[t] :: b[t + 1] :: b.drop (t + 2)).length = t := by simp; omega
  rw [hdr]
  simp only [matchS, e]
  by_cases hc : b[t].toNat + 256 * b[t + 1].toNat = 0 ∨ T.reaches s (b[t].toNat + 256 * b[t + 1].toNat) = false
  · rw [if_pos hc, if_pos hc]
  · rw [if_neg hc, if_neg hc]
    cases num lo (b.drop (t + 2)) <;> rfl
theorem mtc_at (b : List By) (lo t : Nat) (hy : t + 1 < b.length) (h0 : ¬ b[t].toNat + 256 * b[t + 1].toNat = 0) : mtc b lo t = match num lo (b.drop (t + 2)) with
      | none => (0, 0, b.length, 4)
      | some (n, k) => (b[t].toNat + 256 * b[t + 1].toNat, n + 4, t + 2 + k, 0) := by
  have hdr : b.drop t = b[t] :: b[t + 1] :: b.drop (t + 2) := by rw [List.drop_eq_getElem_cons (by omega), List.drop_eq_getElem_cons hy]
  unfold mtc
  rw [hdr]
  simp only [if_neg h0]
  cases num lo (b.drop (t + 2)) <;> rfl
theorem Ow.tail {g c : Nat} {l : List By} {w : World} (h : Ow g (.slice (some ⟨g, 0, none⟩) l.length c) l w) (n : Nat) (ad : Nat) (hn : n ≤ l.length) (hl : l.length ≤ c) (hc : c < 9223372036854775808) (had : ad = n ∨ n = c) : SlB g (.slice (some ⟨g, ad, none⟩) (l.drop n).length (c - n)) (l.drop n) w := by
  obtain ⟨o, c', e, _, _, hrd⟩ := h.slb
  injection e with e1 _ e3
  injection e1 with e1
  injection e1 with _ e1
  subst e1
  refine ⟨ad, c - n, rfl, by simp; omega, by omega, ?_⟩
  rcases had with rfl | had
  · have := hrd.drop ad; rw [Nat.zero_add] at this; exact this
  · rw [show l.drop n = [] by simp; omega]; exact Rd.nil _ _ _
end Go.Proofs.Ytpnacppmdlnjlab
