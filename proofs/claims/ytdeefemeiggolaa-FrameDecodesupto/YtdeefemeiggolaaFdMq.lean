import Derived.Test.YtdeefemeiggolaaRl
import Derived.Test.YtdeefemeiggolaaRb
namespace Go.Proofs.Ytdeefemeiggolaa
open Go.RowKit
set_option linter.unusedVariables false
variable {D rb g o c : Nat} {b : List By} {most p : Nat} {out : List By} {K : Nat → Prop} {w : World}
/-- framed. -/
theorem eframed_any (P0 : Nat) (h : RfI D rb g o c b most (P0 + 4) out K w) (fb : Nat) (hf : FB fb (Fm.start P0) w) (hfr : fb ≠ rb) (hKf : K fb) (hDf : D ≤ fb) : Calls Try.prog 36 #[.pointer (some ⟨rb, 0, none⟩), .pointer (some ⟨fb, 0, none⟩)] w (EFm D rb g o c b most K w fb (frameF b most P0 out)) := by
  cases hh : headF b (P0 + 4) with
  | bad a y => exact eframed_bad P0 h fb hf hfr hKf hDf a y hh
  | ok r =>
    obtain ⟨s, nsz, p1⟩ := r
    exact eframed_good P0 h fb hf hfr hKf hDf s nsz p1 hh
/-! ### Read: what stands ahead of a round -/
/-- The frames told so far. -/
def FL (D rb : Nat) (K : Nat → Prop) (vl : Value) (fs : List Fm) (V : World) : Prop := (vl = .slice none 0 0 ∧ fs = []) ∨ ∃ lg, K lg ∧ D ≤ lg ∧ lg ≠ rb ∧ OwF lg vl fs V
theorem FL.form {vl : Value} {fs : List Fm} {V : World} (h : FL D rb K vl fs V) : ∃ a k, vl = .slice a fs.length k ∧ fs.length ≤ k ∧ k < 9223372036854775808 := by
  rcases h with ⟨rfl, rfl⟩ | ⟨lg, _, _, _, h⟩
  · exact ⟨none, 0, rfl, by simp, by simp⟩
  · obtain ⟨k, e, h1, h2⟩ := h.form
    exact ⟨_, k, e, h1, h2⟩
theorem FL.kept {K' X : Nat → Prop} {vl : Value} {fs : List Fm} {V V' : World} (h : FL D rb K vl fs V) (f : Fr X V V') (hX : ∀ k, X k → ¬ K k) (hK : ∀ k, K k → K' k) : FL D rb K' vl fs V' := by
  rcases h with h | ⟨lg, h1, h2, h3, h4⟩
  · exact .inl h
  · exact .inr ⟨lg, hK _ h1, h2, h3, h4.kept f (fun hx => hX _ hx h1)⟩
/-- Ahead of a round. -/
def RdS (rb g o c : Nat) (b : List By) (most : Nat) (w : World) (p : Nat) (out : List By) (fs : List Fm) (vl : Value) (V : World) : Prop := ∃ K, RfI w.heap.size rb g o c b most p out K V ∧ FL w.heap.size rb K vl fs V ∧ readF b most p out fs = readF b most 0 [] [] ∧ fs.length * 8 ≤ p ∧ Nw w V
/-- One frame more. -/
theorem rd_push {V : World} {vl : Value} {fs : List Fm} (h : RfI D rb g o c b most p out K V) (hl : FL D rb K vl fs V) (f : Fm) (hlen : fs.length ≤ 1000000000) :
    ∃ v2 W K', (∀ ty, (Builtin.append_ #[34, 34] ty #[vl, .slice (some ⟨V.heap.size, 0, none⟩) 1 1]).run Try.prog (V.alloc (.cells (frow f) 49)) = .ok v2 W) ∧ RfI D rb g o c b most p out K' W ∧ FL D rb K' v2 (fs ++ [f]) W ∧ Fr (fun k => D ≤ k) V W := by
  have hd : D ≤ V.heap.size := by have := h.lt rb h.kr; have := h.dr; omega
  have n1 : Nw V (V.alloc (.cells (frow f) 49)) := (Fr.refl _ _).alloc _
  have s1 : (V.alloc (.cells (frow f) 49)).heap.size = V.heap.size + 1 := by simp only [World.alloc, Array.size_push]
  have hq : SwF V.heap.size [f] (V.alloc (.cells (frow f) 49)) := by
    show (V.alloc (.cells (frow f) 49)).heap[V.heap.size]? = _
    rw [new_row _ _ _ rfl]
    rfl
  rcases hl with ⟨rfl, rfl⟩ | ⟨lg, h1, h2, h3, h4⟩
  · obtain ⟨v', W, hap, hO, hN⟩ := appF_nil _ V.heap.size f hq
    have hlt := hO.lt
    have hnw := n1.trans hN
    have hrl := h.lt rb h.kr
    exact ⟨v', W, fun k => K k ∨ (V.heap.size ≤ k ∧ k < W.heap.size), hap, h.keep hnw (fun k hk => hk.elim) (fun k hk => .inl hk) (fun k hk => hk), .inr ⟨_, .inr ⟨by omega, hlt⟩, by omega, by omega, hO⟩, hnw.any⟩
  · obtain ⟨v', g', W, hap, hO, hF, hg'⟩ := appF_any _ lg vl fs (h4.nw n1) V.heap.size f hq hlen
    have hlt := hO.lt
    have hrl := h.lt rb h.kr
    have hF' : Fr (fun k => k = lg) V W := n1.any.trans hF
    refine ⟨v', W, fun k => K k ∨ (V.heap.size ≤ k ∧ k < W.heap.size), hap, h.keep hF' (fun k hk => .inl ⟨by subst hk; exact h1, by omega, by subst hk; exact h3⟩) (fun k hk => .inl hk) (fun k hk => hk), .inr ⟨g', ?_, ?_, ?_, hO⟩, hF'.mono (fun k hk => .inl (by omega))⟩
    · rcases hg' with e | e
      · subst e; exact .inl h1
      · exact .inr ⟨by omega, hlt⟩
    · rcases hg' with e | e <;> omega
    · rcases hg' with e | e <;> omega
theorem knd_drop (b : List By) (p : Nat) (h : p + 4 ≤ b.length) : knd (b.drop p) = if le (tk b p 4) = 407708164 then 1 else if le (tk b p 4) / 16 = 25481893 then 2 else 0 := by
  unfold knd tk
  rw [if_neg (by rw [List.length_drop]; omega)]
theorem user_drop (b : List By) (p : Nat) (h : p + 4 ≤ b.length) (y : By) (hy : b[p]? = some y) (hk : le (tk b p 4) / 16 = 25481893) : y.toNat = 80 + le (tk b p 4) % 16 := by
  have h4 : ¬ (b.drop p).length < 4 := by rw [List.length_drop]; omega
  obtain ⟨x0, x1, x2, x3, e0, e1, e2, e3, hle⟩ := four h4
  rw [List.getElem?_drop, Nat.add_zero, hy] at e0
  obtain rfl := Option.some.inj e0
  have : le (tk b p 4) = y.toNat + 256 * (x1.toNat + 256 * (x2.toNat + 256 * x3.toNat)) := hle
  have b0 := y.isLt
  omega
/-- What skipped answers is what the document's reading says. -/
theorem next_skip (b : List By) (most p : Nat) (out : List By) (h1 : ¬ b.length < p + 4) (h2 : ¬ le (tk b p 4) = 407708164) (h3 : le (tk b p 4) / 16 = 25481893) : nextF b most p out = match skipR b (p + 4) with | .bad a y => .bad a y | .ok q => .ok ({ Fm.start p with user := le (tk b p 4) % 16, skipped := true, till := q }, out) := by
  by_cases q1 : b.length < p + 8
  · have hs : skipR b (p + 4) = .bad b.length 4 := by unfold skipR; rw [if_pos (by omega)]
    rw [hs]
    unfold nextF
    rw [if_neg h1, if_neg h2, if_pos h3, if_pos q1]
  · by_cases q2 : b.length < p + 8 + le (tk b (p + 4) 4)
    · have hs : skipR b (p + 4) = .bad b.length 4 := by unfold skipR; rw [if_neg (by omega), if_pos (by omega)]
      rw [hs]
      unfold nextF
      rw [if_neg h1, if_neg h2, if_pos h3, if_neg q1, if_pos q2]
    · have hs : skipR b (p + 4) = .ok (p + 8 + le (tk b (p + 4) 4)) := by
        unfold skipR
        rw [if_neg (by omega), if_neg (by omega)]
      rw [hs]
      unfold nextF
      rw [if_neg h1, if_neg h2, if_pos h3, if_neg q1, if_neg q2]
      rfl
end Go.Proofs.Ytdeefemeiggolaa
