import Derived.Test.YtdeefemeiggolaaFdMq
namespace Go.Proofs.Ytdeefemeiggolaa
open Go.RowKit
set_option linter.unusedVariables false
variable {D rb g o c : Nat} {b : List By} {most p : Nat} {out : List By} {K : Nat → Prop} {w : World}
/-! ### Read -/
theorem new12 {V : World} (h : RfI D rb g o c b most p out K V) {vl : Value} {fs : List Fm} (hl : FL D rb K vl fs V) (q : Nat) : RfI D rb g o c b most p out (fun k => K k ∨ k = V.heap.size) (V.alloc (.cells (frow (Fm.start q)) 49)) ∧ FB V.heap.size (Fm.start q) (V.alloc (.cells (frow (Fm.start q)) 49)) ∧ FL D rb K vl fs (V.alloc (.cells (frow (Fm.start q)) 49)) ∧ Nw V (V.alloc (.cells (frow (Fm.start q)) 49)) := by
  have hN : Nw V (V.alloc (.cells (frow (Fm.start q)) 49)) := (Fr.refl _ V).alloc _
  have hr : (V.alloc (.cells (frow (Fm.start q)) 49)).heap[V.heap.size]? = some (.cells (frow (Fm.start q)) 49) := new_row _ _ _ rfl
  have hs := (Array.getElem?_eq_some_iff.1 hr).1
  refine ⟨h.keep hN (fun k hk => hk.elim) (fun k hk => .inl hk) (fun k hk => ?_), hr, hl.kept hN (fun k hk => hk.elim) (fun k hk => hk), hN⟩
  rcases hk with hk | hk
  · exact .inl hk
  · exact .inr ⟨by omega, by omega⟩
/-- What Read answers. -/
def Rd4 (b : List By) (most : Int) (w : World) (e : Ending) (w' : World) : Prop :=
  ∃ a1 k1 a2 k2, e = .returned (.tuple #[.slice a1 (fdec b most).1.length k1, .slice a2 (ffr b most).1.length k2, .int .i64 (fdec b most).2.1, .int .i64 (fdec b most).2.2]) ∧ (ffr b most).2 = (fdec b most).2 ∧ Mine (fun k => k < w.heap.size) (.slice a1 (fdec b most).1.length k1) (fdec b most).1 w' ∧ Frs (ffr b most).1 (.slice a2 (ffr b most).1.length k2) w w' ∧ Nw w w'
theorem Rd4.bad {b : List By} {m : Nat} {a y : Nat} {V : World} (hm : m ≤ 4194304) (h : readF b m 0 [] [] = .bad a y) (hN : Nw w V) : Rd4 b m w (.returned (.tuple #[.slice none 0 0, .slice none 0 0, .int .i64 a, .int .i64 y])) V := by
  have h1 : fdec b m = ([], a, y) := by unfold fdec; rw [if_neg (by omega), Int.toNat_natCast, h]
  have h2 : ffr b m = ([], a, y) := by unfold ffr; rw [if_neg (by omega), Int.toNat_natCast, h]
  unfold Rd4
  rw [h1, h2]
  exact ⟨none, 0, none, 0, rfl, rfl, Mine.nil _ _, .inl ⟨rfl, rfl⟩, hN⟩
/-- One round: what next answers, and where it leads. -/
theorem RdS.next {fs : List Fm} {vl : Value} {V : World} (h : RdS rb g o c b most w p out fs vl V) (hp : p < b.length) : (∀ a y, nextF b most p out = .bad a y → readF b most 0 [] [] = .bad a y) ∧ (∀ f out', nextF b most p out = .ok (f, out') → readF b most f.till out' (fs ++ [f]) = readF b most 0 [] []) := by
  obtain ⟨K, _, _, h3, _, _⟩ := h
  rw [readF_eq, if_pos hp] at h3
  constructor
  · intro a y hn
    rw [hn] at h3; exact h3.symm
  · intro f out' hn
    rw [hn] at h3; exact h3
theorem RdS.push {fs : List Fm} {vl : Value} {V V5 : World} (h : RdS rb g o c b most w p out fs vl V) (hp : p < b.length) {f : Fm} {out' : List By} (hn : nextF b most p out = .ok (f, out')) {K5 : Nat → Prop} (h5 : RfI w.heap.size rb g o c b most f.till out' K5 V5) (hl5 : FL w.heap.size rb K5 vl fs V5) (hN5 : Nw w V5) (hbl : b.length ≤ 8000000000) :
    ∃ a2 k2 W, Hid (∀ ty, (Builtin.append_ #[34, 34] ty #[vl, .slice (some ⟨V5.heap.size, 0, none⟩) 1 1]).run Try.prog (V5.alloc (.cells (frow f) 49)) = .ok (.slice a2 (fs.length + 1) k2) W) ∧ p < f.till ∧ f.till ≤ b.length ∧ Hid (RdS rb g o c b most w f.till out' (fs ++ [f]) (.slice a2 (fs.length + 1) k2) W) := by
  have hk := (h.next hp).2 f out' hn
  obtain ⟨K, h1, _, _, hlen, _⟩ := h
  have hpl := h1.pl
  obtain ⟨n1, n2, n3, n4, n5⟩ := nextF_ok hn
  obtain ⟨v2, W, K', hap, hR, hL, hF⟩ := rd_push h5 hl5 f (by omega)
  obtain ⟨a2, k2, e, _, _⟩ := hL.form
  rw [List.length_append] at e
  subst e
  refine ⟨a2, k2, W, hap, by omega, n3, K', hR, hL, hk, by rw [List.length_append, List.length_singleton]; omega, Fr.then hN5 hF (fun i hi => .inr hi)⟩
end Go.Proofs.Ytdeefemeiggolaa
