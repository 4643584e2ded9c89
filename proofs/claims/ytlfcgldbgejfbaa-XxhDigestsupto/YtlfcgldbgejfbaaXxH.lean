import Derived.Test.YtlfcgldbgejfbaaXxG
namespace Go.Proofs.Ytlfcgldbgejfbaa
open Go.RowKit
set_option linter.unusedVariables false

/-- What is asked of the one that mixes. -/
def Mixes {α : Type} (T d size : Nat) (enc : α → List Value) (f : α → List By → α) (c : Nat) (cap : Array Value) (w : World) : Prop :=
  ∀ W tot rest x g u p, Fr (fun k => k = d) w W → DB T d tot rest (enc x) W → rest.length = 32 → p.length = size → Rp d g u p W →
    Calls Try.prog c (#[u] ++ cap) W fun e w' => (∃ r, e = .returned r) ∧ DB T d tot rest (enc (f x p)) w' ∧ Fr (fun k => k = d) W w'
/-- The last step of stripes: the pieces, and what is left is laid by. -/
def Lays {α : Type} (T d tot size : Nat) (rest : List By) (enc : α → List Value) (f : α → List By → α) (x : α) (b : List By) (w : World) (e : Ending) (w' : World) : Prop :=
  ∃ a n c, e = .returned (.slice a n c) ∧ ∃ W2 k, (∀ ty c1, (Builtin.copy_ #[24, 24] ty #[.slice (some ⟨d, 1, none⟩) size c1, .slice a n c]).run Try.prog w' = .ok k W2) ∧
    DB T d tot (putr rest 0 ((b.drop (b.length / size * size)).take size)) (enc (foldc size f (b.length / size) x b)) W2 ∧ Fr (fun k => k = d) w W2
theorem lays_any {α : Type} (T d tot size : Nat) (hs : 0 < size) (hs2 : size ≤ 32) (rest : List By) (hr : rest.length = 32) (enc : α → List Value) (f : α → List By → α) (x : α) (c : Nat) (eg : ∀ args w, (callFunc c args).run Try.prog w = .ok (.enter c args) w) (cap : Array Value) (w : World)
    (hm : Mixes T d size enc f c cap w) (v : Value) (b : List By) (hv : Sl (fun k => k = d) v b w) (h : DB T d tot rest (enc x) w) :
    Calls Try.prog 43 #[v, .int .i64 size, .func (.func c) #[] cap] w (Lays T d tot size rest enc f x b w) := by
  rcases hv with ⟨a, rfl, rfl⟩ | ⟨g, hg, hv⟩
  · refine (pieces_nil a size hs c cap w).mono ?_
    rintro e w' ⟨rfl, hN⟩
    refine ⟨a, 0, 0, rfl, w', goInt 0, fun ty c1 => copy_none w' ty ⟨d, 1, none⟩ size c1 a, ?_, hN.any⟩
    have : putr rest 0 ((([] : List By).drop (0 / size * size)).take size) = rest := by simp [putr]
    simp only [List.length_nil, Nat.zero_div, Nat.zero_mul, List.drop_zero, List.take_nil, foldc]
    rw [show putr rest 0 [] = rest by simp [putr]]
    exact h.nw hN
  · have hP := pieces_any g v b size hs (by omega) c eg cap w (fun k W => DB T d tot rest (enc (foldc size f k x b)) W ∧ Fr (fun k => k = d) w W) ⟨h, Fr.refl _ _⟩
      (fun k W hk => hv.kept hk.2 hg) (fun k W u hk hl hu => by
        have hl' : k * size + size ≤ b.length := by rw [Nat.add_mul] at hl; omega
        have hpl : ((b.drop (k * size)).take size).length = size := by simp; omega
        refine (hm W tot rest (foldc size f k x b) g u _ hk.2 hk.1 hr hpl ?_).mono ?_
        · obtain ⟨o, c, h1, h2, h3, h4⟩ := hu
          exact ⟨o, c, h1, h2, h3, h4, .inl hg⟩
        · rintro e w' ⟨h1, h2, h3⟩
          exact ⟨h1, by rw [foldc_snoc]; exact h2, hk.2.trans h3⟩)
    refine hP.mono ?_
    rintro e w' ⟨u, rfl, hu, hD, hF⟩
    obtain ⟨o, c, rfl, h2, h3, h4⟩ := hu
    obtain ⟨W2, k1, k2, k3⟩ := copyd T d tot rest _ w' hD hr g o 0 _ h4 0 size (by omega)
    exact ⟨_, _, _, rfl, W2, _, fun ty c1 => k1 ty c1 _, k2, hF.trans k3⟩
end Go.Proofs.Ytlfcgldbgejfbaa
