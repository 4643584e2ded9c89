import Derived.Test.YtegabbfdnpjkkaaRanM
namespace Go.Proofs.Ytegabbfdnpjkkaa
open Go.RowKit
set_option linter.unusedVariables false

/-- The list rises. -/
def Rises (L : List Rg) : Prop := ∀ a b (ha : a < L.length) (hb : b < L.length), a ≤ b → L[a].1 ≤ L[b].1 ∧ L[a].2 ≤ L[b].2

set_option maxHeartbeats 2000000 in
set_option maxRecDepth 100000 in
theorem ends_any (br : Nat) (og : Option Nat) (L : List Rg) (x : Int) (w : World) (h : RngB br og L w) (hL : L.length ≤ 65536) (hr : Rises L) :
    Calls Try.prog 38 #[.pointer (some ⟨br, 0, none⟩), .int .i64 x] w fun e w' => ∃ r : Nat, e = .returned (.int .i64 r) ∧ Part L (fun y => decide (x < y.2)) r ∧ Nw w w' := by
  have hmf : ∀ (fn : Fn) (first cap : Array Value) (w : World), (Instr.makeFunc fn first cap).run Try.prog w = .ok (.func fn first cap) w := fun _ _ _ _ => rfl
  have hN0 : Nw w (w.alloc (.cells #[.int .i64 x] 2)) := (Fr.refl _ _).alloc _
  have c0 : (w.alloc (.cells #[.int .i64 x] 2)).cell? ⟨w.heap.size, 0, none⟩ = some (.int .i64 x) := by
    have : (w.alloc (.cells #[.int .i64 x] 2)).heap[w.heap.size]? = some (.cells #[.int .i64 x] 2) := by show (w.heap.push _)[w.heap.size]? = _; simp
    exact (box_cell this).1
  have HF : Hid (Calls Try.prog 39 #[.pointer (some ⟨br, 0, none⟩), .func (.func 48) #[] #[.pointer (some ⟨w.heap.size, 0, none⟩)]] (w.alloc (.cells #[.int .i64 x] 2)) fun e w' => ∃ r : Nat, e = .returned (.int .i64 r) ∧ Part L (fun y => decide (x < y.2)) r ∧ Nw (w.alloc (.cells #[.int .i64 x] 2)) w') :=
    first_any 48 _ (fun y => decide (x < y.2)) br og L _ eg48 (clos_ends w.heap.size x _ c0) (h.nw hN0) hL (fun a b ha hb hab hp => by
      have := (hr a b ha hb hab).2
      simp only [decide_eq_true_eq] at hp ⊢
      omega)
  have HN : Hid _ := hN0
  clear hN0 c0 h hr
  go_enter Try.func38, Try.ntmps38
  go_wp2_with (go_at_call 39; refine HF.out.mono ?_; rintro e w' ⟨r, rfl, hr, hN⟩)
  go_ret
  exact ⟨r, rfl, hr, Nw.trans HN.out hN⟩

/-- What is left of a call that makes the set at br one of L. -/
def Setted (br : Nat) (og : Option Nat) (w w' : World) (L : List Rg) : Prop :=
  ∃ og', RngB br og' L w' ∧ Fr (fun k => k = br ∨ og = some k) w w' ∧ (og' = og ∨ ∃ g', og' = some g' ∧ w.heap.size ≤ g')
theorem SVal.form {v : Value} {og : Option Nat} {L : List Rg} {w : World} (h : SVal v og L w) : ∃ a c, v = .slice a L.length c ∧ L.length ≤ c ∧ c ≤ maxLen := by
  rcases h with ⟨rfl, _, rfl⟩ | ⟨g, xs, _, rfl, h1, h2, _, _⟩
  · exact ⟨none, 0, rfl, Nat.le_refl _, Nat.zero_le _⟩
  · exact ⟨_, _, rfl, h2, h1⟩
theorem SVal.kept {v : Value} {og : Option Nat} {L : List Rg} {w w' : World} {X : Nat → Prop} (h : SVal v og L w) (f : Fr X w w') (hx : ∀ g, og = some g → ¬ X g) : SVal v og L w' := by
  rcases h with h | ⟨g, xs, rfl, h1, h2, h3, h4, h5⟩
  · exact .inl h
  · exact .inr ⟨g, xs, rfl, h1, h2, h3, h4, h5.kept f (hx g rfl)⟩
theorem SVal.lt {v : Value} {og : Option Nat} {L : List Rg} {w : World} (h : SVal v og L w) (g : Nat) (hg : og = some g) : g < w.heap.size := by
  rcases h with ⟨_, h, _⟩ | ⟨g', xs, h, _, _, _, _, h5⟩
  · rw [h] at hg; cases hg
  · rw [h] at hg; cases hg; exact h5.lt
theorem RngB.kept {br : Nat} {og : Option Nat} {L : List Rg} {w w' : World} {X : Nat → Prop} (h : RngB br og L w) (f : Fr X w w') (hb : ¬ X br) (hx : ∀ g, og = some g → ¬ X g) : RngB br og L w' := by
  obtain ⟨v, h1, h2, h3⟩ := h
  exact ⟨v, (f.block br (Array.getElem?_eq_some_iff.1 h1).1 hb).trans h1, h2.kept f hx, h3⟩

set_option maxHeartbeats 4000000 in
set_option maxRecDepth 100000 in
theorem replace_no (br : Nat) (og ov : Option Nat) (L V : List Rg) (i j : Nat) (v : Value) (w : World) (h : RngB br og L w) (hv : SVal v ov V w) (hij : i ≤ j) (hj : j ≤ L.length) (hL : L.length ≤ 65536) (hV : V.length ≤ 2) (hno : 65536 < L.length - (j - i) + V.length) :
    Calls Try.prog 41 #[.pointer (some ⟨br, 0, none⟩), .int .i64 i, .int .i64 j, v] w fun e w' => e = .returned (.int .i64 2) ∧ w' = w := by
  obtain ⟨u, h1, h2, h3⟩ := h
  obtain ⟨c0, f0⟩ := box_cell h1
  obtain ⟨ua, uc, rfl, _, _⟩ := h2.form
  obtain ⟨va, vc, rfl, _, _⟩ := hv.form
  clear h2 hv h1
  have hn : (65536 : Int) < (L.length : Int) - ((j : Int) - (i : Int)) + (V.length : Int) := by omega
  go_enter Try.func41, Try.ntmps41
  go_wp2
  go_ret
  exact ⟨rfl, rfl⟩

theorem setted_store {br : Nat} {og : Option Nat} {w W : World} {L' : List Rg} {u v' : Value} {og' : Option Nat} (h1 : w.heap[br]? = some (.cells #[u] 47)) (h3 : og ≠ some br) (s2 : SVal v' og' L' W) (s3 : Fr (fun k => og = some k) w W) (s4 : og' = og ∨ ∃ g', og' = some g' ∧ w.heap.size ≤ g') :
    Setted br og w (W.setCell ⟨br, 0, none⟩ v') L' := by
  have hbr : br < w.heap.size := (Array.getElem?_eq_some_iff.1 h1).1
  have hW : W.heap[br]? = some (.cells #[u] 47) := (s3.block br hbr h3).trans h1
  have hne : og' ≠ some br := by
    rcases s4 with rfl | ⟨g', rfl, hg⟩
    · exact h3
    · intro e; cases e; omega
  have hF : Fr (fun k => k = br) W (W.setCell ⟨br, 0, none⟩ v') := (Fr.refl _ _).setCell _ _ (.inl rfl)
  refine ⟨og', ⟨v', ?_, s2.kept hF (fun g hg e => hne (by rw [hg, e])), hne⟩, ?_, s4⟩
  · simp only [World.setCell, Array.getElem?_modify, hW]; simp
  · exact (s3.mono (fun k hk => .inl (.inr hk))).then hF (fun k hk => .inl (.inl hk))

set_option maxHeartbeats 4000000 in
set_option maxRecDepth 100000 in
theorem replace_yes (br : Nat) (og ov : Option Nat) (L V : List Rg) (i j : Nat) (v : Value) (w : World) (h : RngB br og L w) (hv : SVal v ov V w) (hV0 : V = [] → v = .slice none 0 0) (hd : ∀ g, og = some g → ov ≠ some g) (hij : i ≤ j) (hj : j ≤ L.length) (hL : L.length ≤ 65536) (hV : V.length ≤ 2) (hyes : L.length - (j - i) + V.length ≤ 65536) :
    Calls Try.prog 41 #[.pointer (some ⟨br, 0, none⟩), .int .i64 i, .int .i64 j, v] w fun e w' => e = .returned (.int .i64 0) ∧ Setted br og w w' (L.take i ++ V ++ L.drop j) := by
  obtain ⟨u, h1, h2, h3⟩ := h
  obtain ⟨c0, f0⟩ := box_cell h1
  have hbr : br < w.heap.size := (Array.getElem?_eq_some_iff.1 h1).1
  have HR : Hid (Calls Try.prog 51 #[u, .int .i64 i, .int .i64 j, v] w fun e w' => Made og w w' e (L.take i ++ V ++ L.drop j)) := rep_any u v og ov L V i j w h2 hv hV0 hd hij hj (by omega)
  have FIN : Hid (∀ (W : World) (v' : Value) (og' : Option Nat), SVal v' og' (L.take i ++ V ++ L.drop j) W → Fr (fun k => og = some k) w W → (og' = og ∨ ∃ g', og' = some g' ∧ w.heap.size ≤ g') → Setted br og w (W.setCell ⟨br, 0, none⟩ v') (L.take i ++ V ++ L.drop j)) := fun W v' og' a b c => setted_store h1 h3 a b c
  have KEY : Hid (∀ W : World, Fr (fun k => og = some k) w W → W.cell? ⟨br, 0, none⟩ = some u ∧ W.frozen? ⟨br, 0, none⟩ = false) := fun W hW => box_cell ((hW.block br hbr h3).trans h1)
  obtain ⟨ua, uc, rfl, _, _⟩ := h2.form
  obtain ⟨va, vc, rfl, _, _⟩ := hv.form
  have hn : ¬ (65536 : Int) < (L.length : Int) - ((j : Int) - (i : Int)) + (V.length : Int) := by omega
  generalize L.take i ++ V ++ L.drop j = R at HR FIN ⊢
  clear h2 hv h1
  go_enter Try.func41, Try.ntmps41
  go_wp2_with (go_at_call 51; refine HR.out.mono ?_; rintro e w' ⟨v', og', rfl, s2, s3, s4⟩; obtain ⟨k1, k2⟩ := KEY.out _ s3; obtain ⟨a', c', hv', _, _⟩ := s2.form; rw [hv']; have FV := FIN.out _ _ _ s2 s3 s4; rw [hv'] at FV; have FW : Hid _ := FV; clear FV)
  go_ret
  exact ⟨rfl, FW.out⟩
end Go.Proofs.Ytegabbfdnpjkkaa
