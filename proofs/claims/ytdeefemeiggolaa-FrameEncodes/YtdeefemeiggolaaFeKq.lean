import Derived.Test.YtdeefemeiggolaaFeJq
namespace Go.Proofs.Ytdeefemeiggolaa
open Go.RowKit
set_option linter.unusedVariables false
/-! ### left -/
set_option maxHeartbeats 8000000 in
set_option maxRecDepth 100000 in
theorem left_any (w : World) (g : Nat) (N c : Nat) (vb : Value) (b : List By) (hb : Sl (fun k => k = g) vb b w) (hN : N = b.length + 5) (hO : Ow g (.slice (some ⟨g, 0, none⟩) N c) (b ++ mk5) w) (hbl : b.length ≤ 140737488351232) :
    Calls Try.prog 14 #[.slice (some ⟨g, 0, none⟩) N c, vb] w fun e w' => e = .returned (.bool true) ∧ Fr (fun k => k = g) w w' := by
  obtain ⟨P, hP⟩ : ∃ P : Ending → World → Prop, P = fun e w' => e = .returned (.bool true) ∧ Fr (fun k => k = g) w w' := ⟨_, rfl⟩
  rw [← hP]
  have HF : Hid (∀ V, Fr (fun k => k = g) w V → P (.returned (.bool true)) V) := fun V hV => by rw [hP]; exact ⟨rfl, hV⟩
  clear hP
  have hlm : (b ++ mk5).length = N := by rw [hN]; simp [mk5]
  have hc1 : (convert 22 9 (.slice (some ⟨g, 0, none⟩) N c)).run Try.prog w = .ok (.string (str (b ++ mk5))) w := conv_any hO.old
  have hc2 : (convert 22 9 vb).run Try.prog w = .ok (.string (str b)) w := conv_any hb
  have hcat : str b ++ ⟨#[1, 2, 3, 4, 5]⟩ = str (b ++ mk5) := by rw [← str_app]; rfl
  have HI0 : Hid (∃ xs : List By, Ow g (.slice (some ⟨g, 0, none⟩) N c) xs w ∧ xs.length = N ∧ Fr (fun k => k = g) w w) := ⟨_, hO, hlm, Fr.refl _ _⟩
  obtain ⟨a, c2, rfl, _, _⟩ := hb.form
  have hNl : N ≤ 140737488351237 := by omega
  have hsz : (str b).size ≤ 140737488351232 := by rw [str_size]; omega
  clear hb hO hlm hN hbl
  generalize str (b ++ mk5) = s1 at *
  generalize str b = s2 at *
  generalize b.length = L at *
  have hcc : ¬ 9223372036854775807 < s2.size + 5 := by omega
  go_enter Try.func14, Try.ntmps14
  go_wp2_with fail
  go_loopg [6] N (fun kx vi wr => ∃ (i : Nat), i ≤ N ∧ N - i ≤ kx ∧ vi = .int .i64 i ∧ Hid (∃ xs : List By, Ow g (.slice (some ⟨g, 0, none⟩) N c) xs wr ∧ xs.length = N ∧ Fr (fun k => k = g) w wr))
  case atStart => exact ⟨0, by omega, by omega, rfl, HI0.out⟩
  case round =>
    obtain ⟨i, hi, hkx, rfl, HI⟩ := hrel
    clear HI0
    obtain ⟨xs, hO, hxl, hF⟩ := HI.out
    by_cases hlt : i < N
    · have hz : (i : Int) < (N : Int) := by omega
      obtain ⟨⟨y, x1⟩, x2⟩ : (∃ y, wr.cell? ⟨g, i, none⟩ = some y) ∧ wr.frozen? ⟨g, i, none⟩ = false := ⟨⟨_, (hO.at i (by omega)).1⟩, (hO.at i (by omega)).2⟩
      have HN : Hid (∃ xs : List By, Ow g (.slice (some ⟨g, 0, none⟩) N c) xs (wr.setCell ⟨g, i, none⟩ (.int .u8 238)) ∧ xs.length = N ∧ Fr (fun k => k = g) w (wr.setCell ⟨g, i, none⟩ (.int .u8 238))) := ⟨_, hO.put i (by omega) 238#8 238 (by decide), by rw [List.length_set]; exact hxl, hF.setCell _ _ (.inl rfl)⟩
      clear HI hO hxl hF HF
      go_wp2_with fail
      go_roundg (N - (i + 1))
      all_goals (first | omega | exact ⟨i + 1, by omega, by omega, by first | rfl | (congr 1), HN.out⟩)
    · have hz : ¬ (i : Int) < (N : Int) := by omega
      have HF' : Hid (P (.returned (.bool true)) wr) := HF.out _ hF
      clear HI hO hxl hF HF
      go_wp2_with fail
      exact HF'.out
end Go.Proofs.Ytdeefemeiggolaa
