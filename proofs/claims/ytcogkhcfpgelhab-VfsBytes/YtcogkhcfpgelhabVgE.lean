import Derived.Test.YtcogkhcfpgelhabVgD
namespace Go.Proofs.Ytcogkhcfpgelhab
open Go.RowKit
set_option linter.unusedVariables false
set_option maxRecDepth 100000
variable {w w' D : World} {X : Nat → Prop} {fb mb g : Nat} {d0 : List By} {h h' : Hx} {q q' : Int → Option Pn} {cnt cnt' : Nat} {T T' : List Ac}
theorem FsD.grow (H : FsD D X fb mb h q cnt T w) {Y : Nat → Prop} (f : Fr Y w w') (hY : ∀ k, Y k → X k ∧ D.heap.size ≤ k) {Z : Nat → Prop} (hZ : ∀ k, Z k → X k ∨ w.heap.size ≤ k ∧ k < w'.heap.size) : FsD D Z fb mb h q cnt T w' := by
  obtain ⟨ot, L, h1, h2, h3, h4⟩ := H
  refine ⟨ot, L, h1.kept f (fun k hk hb => (h2 k hb).2 (hY k hk).1), fun k hk => ⟨(h2 k hk).1, fun hz => ?_⟩, h3.then f (fun i hi => .inr (hY i hi).2), fun k hk => ?_⟩
  · rcases hZ k hz with e | e
    · exact (h2 k hk).2 e
    · have := h1.lt k hk; omega
  · rcases hZ k hk with e | e
    · exact Nat.lt_of_lt_of_le (h4 k e) f.size
    · exact e.2
theorem FsD.lessX (H : FsD D X fb mb h q cnt T w) {Y : Nat → Prop} (hY : ∀ k, Y k → X k) : FsD D Y fb mb h q cnt T w := by
  obtain ⟨ot, L, h1, h2, h3, h4⟩ := H
  exact ⟨ot, L, h1, fun k hk => ⟨(h2 k hk).1, fun hy => (h2 k hk).2 (hY k hy)⟩, h3, fun k hk => h4 k (hY k hk)⟩
/-! ### One file -/
def bP (d : List By) : Pn := ⟨2, mt0, d, [], fun _ => none, 0, 1, 0⟩
def bQ1 : Int → Option Pn := addQ rootQ 1 [102] 2 (newP 2 mt0 [])
def bQ (d : List By) (j : Int) : Option Pn := if j = 2 then some (bP d) else bQ1 j
def bH (d : List By) : Hx := ⟨2, 4194304, d.length, 3⟩
theorem bQ_two (d : List By) : bQ d 2 = some (bP d) := rfl
theorem bQ_nil : bQ1 = bQ [] := by
  funext j
  unfold bQ
  by_cases hj : j = 2
  · rw [if_pos hj, hj]; rfl
  · rw [if_neg hj]
theorem bQ_upd (d d' : List By) : (fun j => if j = 2 then some { bP d with data := d' } else bQ d j) = bQ d' := by
  funext j
  unfold bQ
  by_cases hj : j = 2
  · rw [if_pos hj, if_pos hj]; rfl
  · rw [if_neg hj, if_neg hj, if_neg hj]
theorem wrD_len (d : List By) (A : Nat) (b : List By) : (wrD d A b).length = if b = [] then d.length else max d.length (A + b.length) := by
  unfold wrD
  split
  · rfl
  · rw [ovl_len _ _ _ (by rw [rszD_len]; omega), rszD_len]
theorem bH_wr (d : List By) (A : Nat) (b : List By) : wrH (bH d) (bP d) A b = bH (wrD d A b) := by
  unfold wrH
  by_cases hb : b = []
  · rw [if_pos hb]
    unfold wrD
    rw [if_pos hb]
  · rw [if_neg hb]
    unfold bH rszH
    rw [wrD_len, if_neg hb]
    show Hx.mk 2 4194304 ((d.length : Int) + (((max d.length (A + b.length) : Nat) : Int) - (d.length : Int))) 3 = _
    congr 1
    omega
theorem bH_rsz (d : List By) (n : Nat) : rszH (bH d) (bP d) n = bH (rszD d n) := by
  unfold bH rszH
  rw [rszD_len]
  show Hx.mk 2 4194304 ((d.length : Int) + ((n : Int) - (d.length : Int))) 3 = _
  congr 1
  omega
/-- A Write that is refused. -/
def wBad (pl : Int) (n : Nat) : Prop := pl < 0 ∨ 4194304 < pl ∨ 4194304 - pl < (n : Int)
theorem bwrE (d : List By) (hd : d.length ≤ 4194304) (pl : Int) (b : List By) : (wBad pl b.length → wrE (bH d) (bQ d) 2 pl b = 1) ∧ (¬ wBad pl b.length → wrE (bH d) (bQ d) 2 pl b = 0) := by
  unfold wrE wBad
  rw [bQ_two]
  constructor
  · intro hb
    simp only
    rw [if_pos hb]
  · intro hb
    simp only
    rw [if_neg hb, if_neg (by simp [bP]), if_neg]
    rintro ⟨_, h2⟩
    have h2 : (4194304 : Int) - (d.length : Int) < max (d.length : Int) (pl + (b.length : Int)) - (d.length : Int) := h2
    omega
theorem bwrite (H : FsD D X fb mb (bH d0) (bQ d0) 2 T w) (hd : d0.length ≤ 4194304) (hT : T.length ≤ 1000) (pl : Int) (hp64 : I64 pl) (ba : Option Addr) (cb : Nat) (b : List By) (hsl : Sl (fun k => D.heap.size ≤ k ∧ ¬ X k ∨ w.heap.size ≤ k) (.slice ba b.length cb) b w) :
    Calls Try.prog 7 #[.pointer (some ⟨fb, 0, none⟩), .int .i64 2, .int .i64 pl, .slice ba b.length cb] w fun e w' => (wBad pl b.length ∧ e = .returned (.int .i64 1) ∧ FsD D X fb mb (bH d0) (bQ d0) 2 T w' ∧ Nw w w') ∨ (¬ wBad pl b.length ∧ e = .returned (.int .i64 0) ∧ (∃ T', T'.length ≤ T.length + 1 ∧ FsD D X fb mb (bH (wrD d0 pl.toNat b)) (bQ (wrD d0 pl.toNat b)) 2 T' w') ∧ FrD D X w w') := by
  have H0 := H
  obtain ⟨ot, L, h1, h2, h3, h4⟩ := H
  have hdl : (bP d0).data.length ≤ 4194304 := hd
  refine Calls.mono (write_any h1 (by omega) 2 ⟨by omega, by omega⟩ pl hp64 ba cb b (hsl.mono (fun k hk => hk.imp (h2 k) id)) (fun p' hp' => by rw [bQ_two] at hp'; injection hp' with e; rw [← e]; exact hd) ⟨by show (0 : Int) ≤ (d0.length : Int); omega, by show (d0.length : Int) ≤ _; omega⟩ ⟨by show (0 : Int) ≤ 4194304; omega, by show (4194304 : Int) ≤ _; omega⟩) ?_
  rintro e w' (⟨hne, rfl, hN⟩ | ⟨hz, rfl, p', hp', hM⟩)
  · by_cases hb : wBad pl b.length
    · rw [(bwrE d0 hd pl b).1 hb]
      exact .inl ⟨hb, rfl, H0.nw hN, hN⟩
    · exact absurd ((bwrE d0 hd pl b).2 hb) hne
  · by_cases hb : wBad pl b.length
    · rw [(bwrE d0 hd pl b).1 hb] at hz; cases hz
    · rw [bQ_two] at hp'
      injection hp' with hp'
      subst hp'
      have := mut_D h1 h2 h3 h4 hM
      rw [bH_wr] at this
      have e1 : (fun j => if j = 2 then some { bP d0 with data := wrD (bP d0).data pl.toNat b } else bQ d0 j) = bQ (wrD d0 pl.toNat b) := bQ_upd d0 _
      rw [e1] at this
      exact .inr ⟨hb, rfl, ⟨_, by simp, this.1⟩, this.2⟩
theorem brszE (d : List By) (hd : d.length ≤ 4194304) (size : Int) : (size < 0 ∨ 4194304 < size → rszE (bH d) (bQ d) 2 size = 1) ∧ (¬ (size < 0 ∨ 4194304 < size) → rszE (bH d) (bQ d) 2 size = 0) := by
  unfold rszE
  rw [bQ_two]
  constructor
  · intro hb
    simp only
    rw [if_pos hb]
  · intro hb
    simp only
    rw [if_neg hb, if_neg (by simp [bP]), if_neg]
    intro h2
    have h2 : (4194304 : Int) - (d.length : Int) < size - (d.length : Int) := h2
    omega
theorem bresize (H : FsD D X fb mb (bH d0) (bQ d0) 2 T w) (hd : d0.length ≤ 4194304) (hT : T.length ≤ 1000) (size : Int) :
    Calls Try.prog 8 #[.pointer (some ⟨fb, 0, none⟩), .int .i64 2, .int .i64 size] w fun e w' => ((size < 0 ∨ 4194304 < size) ∧ e = .returned (.int .i64 1) ∧ FsD D X fb mb (bH d0) (bQ d0) 2 T w' ∧ Nw w w') ∨ (¬ (size < 0 ∨ 4194304 < size) ∧ e = .returned (.int .i64 0) ∧ (∃ T', T'.length ≤ T.length + 1 ∧ FsD D X fb mb (bH (rszD d0 size.toNat)) (bQ (rszD d0 size.toNat)) 2 T' w') ∧ FrD D X w w') := by
  have H0 := H
  obtain ⟨ot, L, h1, h2, h3, h4⟩ := H
  refine Calls.mono (resizeF_any h1 (by omega) 2 ⟨by omega, by omega⟩ size (fun p' hp' => by rw [bQ_two] at hp'; injection hp' with e; rw [← e]; exact hd) ⟨by show (0 : Int) ≤ (d0.length : Int); omega, by show (d0.length : Int) ≤ _; omega⟩ ⟨by show (0 : Int) ≤ 4194304; omega, by show (4194304 : Int) ≤ _; omega⟩) ?_
  rintro e w' (⟨hne, rfl, hN⟩ | ⟨hz, rfl, p', hp', hM⟩)
  · by_cases hb : size < 0 ∨ 4194304 < size
    · rw [(brszE d0 hd size).1 hb]
      exact .inl ⟨hb, rfl, H0.nw hN, hN⟩
    · exact absurd ((brszE d0 hd size).2 hb) hne
  · by_cases hb : size < 0 ∨ 4194304 < size
    · rw [(brszE d0 hd size).1 hb] at hz; cases hz
    · rw [bQ_two] at hp'
      injection hp' with hp'
      subst hp'
      have := mut_D h1 h2 h3 h4 hM
      rw [bH_rsz] at this
      have e1 : (fun j => if j = 2 then some (rszP (bP d0) size.toNat) else bQ d0 j) = bQ (rszD d0 size.toNat) := bQ_upd d0 _
      rw [e1] at this
      exact .inr ⟨hb, rfl, ⟨_, by simp, this.1⟩, this.2⟩
/-- Bytes of the law's own, and one more behind them. -/
theorem was_push (H : FsD D (fun k => k = g) fb mb h q cnt T w) (hD : D.heap.size ≤ g) {v : Value} {l : List By} (hO : Ow g v l w) (hl : l.length ≤ 100000000) (x : By) :
    ∃ g' c' W, (∀ ty, (Builtin.append_ #[22, 22] ty #[v, .slice (some ⟨w.heap.size, 0, none⟩) 1 1]).run Try.prog (w.alloc (.cells #[bv x] 5)) = .ok (.slice (some ⟨g', 0, none⟩) (l.length + 1) c') W) ∧ Ow g' (.slice (some ⟨g', 0, none⟩) (l.length + 1) c') (l ++ [x]) W ∧ FsD D (fun k => k = g') fb mb h q cnt T W ∧ D.heap.size ≤ g' := by
  have hN : Nw w (w.alloc (.cells #[bv x] 5)) := (Fr.refl _ _).alloc _
  have hb : SlB w.heap.size (.slice (some ⟨w.heap.size, 0, none⟩) 1 1) [x] (w.alloc (.cells #[bv x] 5)) := ⟨0, 1, rfl, by simp, by omega, fun j hj => by
    have h0 : j = 0 := by simp at hj; omega
    subst h0
    exact (rc (nh w _) 0 _ rfl).1⟩
  obtain ⟨v', g', W, k1, k2, k3, k4⟩ := app_any _ g v l (hO.nw hN) (.slice (some ⟨w.heap.size, 0, none⟩) 1 1) [x] (.inr ⟨w.heap.size, fun h => h, hb⟩) (by simp; omega)
  obtain ⟨xs, e1, _, e3, _, e5⟩ := id k2
  rw [List.length_append, List.length_singleton] at e1
  subst e1
  have hsz : (w.alloc (.cells #[bv x] 5)).heap.size = w.heap.size + 1 := by simp
  have hgl : g' < W.heap.size := k2.lt
  have hDw : D.heap.size ≤ w.heap.size := by obtain ⟨_, _, _, _, h3, _⟩ := H; exact h3.size
  refine ⟨g', xs.length, W, k1, k2, (H.nw hN).grow k3 (fun k hk => ⟨hk, by omega⟩) (fun k hk => ?_), ?_⟩
  · rcases k4 with e | e
    · exact .inl (hk.trans e)
    · exact .inr ⟨by omega, by omega⟩
  · rcases k4 with e | e <;> omega
end Go.Proofs.Ytcogkhcfpgelhab
