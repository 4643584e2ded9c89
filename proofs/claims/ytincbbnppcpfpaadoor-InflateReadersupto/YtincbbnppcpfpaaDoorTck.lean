import Derived.Test.YtincbbnppcpfpaaDoorTbg
import Derived.Test.YtincbbnppcpfpaaDoorTbf
import Derived.Test.YtincbbnppcpfpaaDoorTar
namespace Go.Proofs.YtincbbnppcpfpaaDoor
open Go.RowKit
set_option linter.unusedVariables false
def mk5 : List By := [1#8, 2#8, 3#8, 4#8, 5#8]
set_option maxHeartbeats 4000000 in
set_option maxRecDepth 100000 in
theorem lhand_any (w : World) (vb : Value) (b : List By) (hb : Old w vb b) (hbl : b.length ≤ 140737488351232) :
    Calls Tryd.prog 9 #[vb] w fun e w' => ∃ g c, e = .returned (.slice (some ⟨g, 0, none⟩) (b.length + 5) c) ∧ Ow g (.slice (some ⟨g, 0, none⟩) (b.length + 5) c) (b ++ mk5) w' ∧ w.heap.size ≤ g ∧ Nw w w' := by
  obtain ⟨P, hP⟩ : ∃ P : Ending → World → Prop, P = fun e w' => ∃ g c, e = .returned (.slice (some ⟨g, 0, none⟩) (b.length + 5) c) ∧ Ow g (.slice (some ⟨g, 0, none⟩) (b.length + 5) c) (b ++ mk5) w' ∧ w.heap.size ≤ g ∧ Nw w w' := ⟨_, rfl⟩
  rw [← hP]
  obtain ⟨g1, c1, W1, hap1, hO1, hg1, hN1⟩ := copyB w _ b hb (by omega)
  have hN2 : Nw W1 (W1.alloc (.cells #[.int .u8 1, .int .u8 2, .int .u8 3, .int .u8 4, .int .u8 5] 5)) := (Fr.refl _ _).alloc _
  have hB2 : Bw W1.heap.size mk5 (W1.alloc (.cells #[.int .u8 1, .int .u8 2, .int .u8 3, .int .u8 4, .int .u8 5] 5)) := by
    show (W1.heap.push _)[W1.heap.size]? = _
    rw [Array.getElem?_push_size]; rfl
  have hO2 : Ow W1.heap.size (.slice (some ⟨W1.heap.size, 0, none⟩) 5 5) mk5 (W1.alloc (.cells #[.int .u8 1, .int .u8 2, .int .u8 3, .int .u8 4, .int .u8 5] 5)) := ⟨mk5, rfl, rfl, by decide, by decide, hB2⟩
  obtain ⟨v3, g3, W3, hap3, hO3, hF3, hg3⟩ := app_any _ g1 _ b (hO1.nw hN2) _ mk5 (.inr ⟨_, fun h => h, hO2.slb⟩) (by simp [mk5]; omega)
  have hO3' := hO3
  obtain ⟨xs, rfl, _⟩ := hO3'
  have hlm : (b ++ mk5).length = b.length + 5 := by simp [mk5]
  rw [hlm] at hap3 hO3
  have HAP1 := hap1
  have HAP3 : Hid (∀ ty, _) := hap3
  have hsz : (W1.alloc (.cells #[.int .u8 1, .int .u8 2, .int .u8 3, .int .u8 4, .int .u8 5] 5)).heap.size = W1.heap.size + 1 := by simp
  have HF : Hid (P (.returned (.slice (some ⟨g3, 0, none⟩) (b.length + 5) xs.length)) W3) := by
    show P _ _
    rw [hP]
    have hs1 := hN1.size
    refine ⟨g3, xs.length, rfl, hO3, ?_, Fr.then (hN1.trans hN2) hF3 (fun k hk => .inr (by omega))⟩
    rcases hg3 with h | h <;> omega
  obtain ⟨a, c, rfl, _, _⟩ := hb.form
  clear hP hb hap1 hO1 hN1 hN2 hB2 hO2 hap3 hO3 hF3 hg3 hg1 hlm hsz
  generalize b.length = L at *
  generalize xs.length = C at *
  go_enter Tryd.func9, Tryd.ntmps9
  go_wp2_with (first | (at_builtin; refine Lib.wpList_append_run _ rfl _ _ 22 22 rfl (.slice (some ⟨w.heap.size, 0, none⟩) 0 0) (.slice a L c) (by simp [Act.eval]) (by simp [Act.eval]) _ _ (HAP1.out _) ?_) | (at_builtin; refine Lib.wpList_append_run _ rfl _ _ 22 22 rfl (.slice (some ⟨g1, 0, none⟩) L c1) (.slice (some ⟨W1.heap.size, 0, none⟩) 5 5) (by simp [Act.eval]) (by simp [Act.eval]) _ _ (HAP3.out _) ?_))
  exact HF.out
set_option maxHeartbeats 8000000 in
set_option maxRecDepth 100000 in
theorem lleft_any (w : World) (g : Nat) (N c : Nat) (vb : Value) (b : List By) (hb : Sl (fun k => k = g) vb b w) (hN : N = b.length + 5) (hO : Ow g (.slice (some ⟨g, 0, none⟩) N c) (b ++ mk5) w) (hbl : b.length ≤ 140737488351232) :
    Calls Tryd.prog 12 #[.slice (some ⟨g, 0, none⟩) N c, vb] w fun e w' => e = .returned (.bool true) ∧ Fr (fun k => k = g) w w' := by
  obtain ⟨P, hP⟩ : ∃ P : Ending → World → Prop, P = fun e w' => e = .returned (.bool true) ∧ Fr (fun k => k = g) w w' := ⟨_, rfl⟩
  rw [← hP]
  have HF : Hid (∀ V, Fr (fun k => k = g) w V → P (.returned (.bool true)) V) := fun V hV => by rw [hP]; exact ⟨rfl, hV⟩
  clear hP
  have hlm : (b ++ mk5).length = N := by rw [hN]; simp [mk5]
  have hc1 : (convert 22 9 (.slice (some ⟨g, 0, none⟩) N c)).run Tryd.prog w = .ok (.string (str (b ++ mk5))) w := conv_any hO.old
  have hc2 : (convert 22 9 vb).run Tryd.prog w = .ok (.string (str b)) w := conv_any hb
  have hcat : str b ++ ⟨#[1, 2, 3, 4, 5]⟩ = str (b ++ mk5) := by rw [← str_app]; rfl
  have HI0 : Hid (∃ xs : List By, Ow g (.slice (some ⟨g, 0, none⟩) N c) xs w ∧ xs.length = N ∧ Fr (fun k => k = g) w w) := ⟨_, hO, hlm, Fr.refl _ _⟩
  obtain ⟨a, c2, rfl, _, _⟩ := hb.form
  have hNl : N ≤ 140737488351237 := by omega
  have hsz : (str b).size ≤ 140737488351232 := by rw [str_size]; omega
  clear hb hO hlm hN hbl
  generalize str (b ++ mk5) = s1 at *
  generalize str b = s2 at *
  generalize b.length = L at *
  have hcc : ¬ 9223372036854775807 < s2.size + 5 := by omega
  go_enter Tryd.func12, Tryd.ntmps12
  go_wp2_with fail
  go_loopg [6] N (fun kx vi wr => ∃ (i : Nat), i ≤ N ∧ N - i ≤ kx ∧ vi = .int .i64 i ∧ Hid (∃ xs : List By, Ow g (.slice (some ⟨g, 0, none⟩) N c) xs wr ∧ xs.length = N ∧ Fr (fun k => k = g) w wr))
  case atStart => exact ⟨0, by omega, by omega, rfl, HI0.out⟩
  case round =>
    obtain ⟨i, hi, hkx, rfl, HI⟩ := hrel
    clear HI0
    obtain ⟨xs, hO, hxl, hF⟩ := HI.out
    by_cases hlt : i < N
    · have hz : (i : Int) < (N : Int) := by omega
      obtain ⟨⟨y, x1⟩, x2⟩ : (∃ y, wr.cell? ⟨g, i, none⟩ = some y) ∧ wr.frozen? ⟨g, i, none⟩ = false := ⟨⟨_, (hO.at i (by omega)).1⟩, (hO.at i (by omega)).2⟩
      have HN : Hid (∃ xs : List By, Ow g (.slice (some ⟨g, 0, none⟩) N c) xs (wr.setCell ⟨g, i, none⟩ (.int .u8 238)) ∧ xs.length = N ∧ Fr (fun k => k = g) w (wr.setCell ⟨g, i, none⟩ (.int .u8 238))) := ⟨_, hO.put i (by omega) 238#8 238 (by decide), by rw [List.length_set]; exact hxl, hF.setCell _ _ (.inl rfl)⟩
      clear HI hO hxl hF HF
      go_wp2_with fail
      go_roundg (N - (i + 1))
      all_goals (first | omega | exact ⟨i + 1, by omega, by omega, by first | rfl | (congr 1), HN.out⟩)
    · have hz : ¬ (i : Int) < (N : Int) := by omega
      have HF' : Hid (P (.returned (.bool true)) wr) := HF.out _ hF
      clear HI hO hxl hF HF
      go_wp2_with fail
      exact HF'.out
set_option maxHeartbeats 8000000 in
set_option maxRecDepth 100000 in
/-- wiped, where both are alike. -/
theorem lwiped_any (w : World) (og : Option Nat) (v vb : Value) (l : List By) (hO : Og og v l w) (hb : Sl (fun k => og = some k) vb l w) (hl : l.length ≤ 140737488351232) :
    Calls Tryd.prog 13 #[v, vb] w fun e w' => e = .returned (.bool true) ∧ Fr (fun k => og = some k) w w' := by
  obtain ⟨P, hP⟩ : ∃ P : Ending → World → Prop, P = fun e w' => e = .returned (.bool true) ∧ Fr (fun k => og = some k) w w' := ⟨_, rfl⟩
  rw [← hP]
  have HF : Hid (∀ V, Fr (fun k => og = some k) w V → P (.returned (.bool true)) V) := fun V hV => by rw [hP]; exact ⟨rfl, hV⟩
  clear hP
  have hc1 : (convert 22 9 v).run Tryd.prog w = .ok (.string (str l)) w := conv_any hO.sl
  have hc2 : (convert 22 9 vb).run Tryd.prog w = .ok (.string (str l)) w := conv_any hb
  obtain ⟨a, c, rfl, hac, hac2⟩ := hO.form
  have HI0 : Hid (∃ xs : List By, Og og (.slice a l.length c) xs w ∧ xs.length = l.length ∧ Fr (fun k => og = some k) w w) := ⟨_, hO, rfl, Fr.refl _ _⟩
  obtain ⟨a2, c2, rfl, _, _⟩ := hb.form
  clear hb hO
  generalize str l = s1 at *
  generalize l.length = N at *
  go_enter Tryd.func13, Tryd.ntmps13
  go_wp2_with fail
  go_loopg [6] N (fun kx vi wr => ∃ (i : Nat), i ≤ N ∧ N - i ≤ kx ∧ vi = .int .i64 i ∧ Hid (∃ xs : List By, Og og (.slice a N c) xs wr ∧ xs.length = N ∧ Fr (fun k => og = some k) w wr))
  case atStart => exact ⟨0, by omega, by omega, rfl, HI0.out⟩
  case round =>
    obtain ⟨i, hi, hkx, rfl, HI⟩ := hrel
    clear HI0
    obtain ⟨xs, hO, hxl, hF⟩ := HI.out
    by_cases hlt : i < N
    · have hz : (i : Int) < (N : Int) := by omega
      cases og with
      | none => have := hO.2; rw [this] at hxl; simp at hxl; omega
      | some g =>
        have hO' : Ow g (.slice a N c) xs wr := hO
        obtain ⟨⟨y, x1⟩, x2⟩ : (∃ y, wr.cell? ⟨g, i, none⟩ = some y) ∧ wr.frozen? ⟨g, i, none⟩ = false := ⟨⟨_, (hO'.at i (by omega)).1⟩, (hO'.at i (by omega)).2⟩
        have HN : Hid (∃ xs : List By, Og (some g) (.slice a N c) xs (wr.setCell ⟨g, i, none⟩ (.int .u8 238)) ∧ xs.length = N ∧ Fr (fun k => some g = some k) w (wr.setCell ⟨g, i, none⟩ (.int .u8 238))) := ⟨_, hO'.put i (by omega) 238#8 238 (by decide), by rw [List.length_set]; exact hxl, hF.setCell _ _ (.inl rfl)⟩
        obtain ⟨ys, e, _⟩ := hO'
        injection e with e1 e2 e3
        subst e1
        clear HI hO hxl hF HF e2 e3
        go_wp2_with fail
        go_roundg (N - (i + 1))
        all_goals (first | omega | exact ⟨i + 1, by omega, by omega, by first | rfl | (congr 1), HN.out⟩)
    · have hz : ¬ (i : Int) < (N : Int) := by omega
      have hN2 : Nw wr (wr.alloc (.cells #[.int .u8 221, .int .u8 221] 5)) := (Fr.refl _ _).alloc _
      have hB2 : Bw wr.heap.size [221#8, 221#8] (wr.alloc (.cells #[.int .u8 221, .int .u8 221] 5)) := by
        show (wr.heap.push _)[wr.heap.size]? = _
        rw [Array.getElem?_push_size]; rfl
      have hO2 : Ow wr.heap.size (.slice (some ⟨wr.heap.size, 0, none⟩) 2 2) [221#8, 221#8] (wr.alloc (.cells #[.int .u8 221, .int .u8 221] 5)) := ⟨_, rfl, rfl, by decide, by decide, hB2⟩
      obtain ⟨v3, og3, W3, hap3, hO3, hF3, hg3⟩ := og_app _ og _ xs (hO.nw hN2) _ [221#8, 221#8] (.inr ⟨_, fun h => h, hO2.slb⟩) (by simp; omega)
      obtain ⟨a3, c3, rfl, _⟩ := hO3.form
      have HAP : Hid (∀ ty, (Builtin.append_ #[22, 22] ty #[.slice a N c, .slice (some ⟨wr.heap.size, 0, none⟩) 2 2]).run Tryd.prog (wr.alloc (.cells #[.int .u8 221, .int .u8 221] 5)) = .ok (.slice a3 (xs ++ [221#8, 221#8]).length c3) W3) := hap3
      have HF' : Hid (P (.returned (.bool true)) W3) := HF.out _ ((hF.trans hN2.any).trans hF3)
      clear HI hO hxl hF HF hN2 hB2 hO2 hap3 hO3 hF3 hg3
      generalize (xs ++ [221#8, 221#8]).length = N3 at *
      go_wp2_with (first | (at_builtin; refine Lib.wpList_append_run _ rfl _ _ 22 22 rfl (.slice a N c) (.slice (some ⟨wr.heap.size, 0, none⟩) 2 2) (by simp [Act.eval]) (by simp [Act.eval]) _ _ (HAP.out _) ?_))
      exact HF'.out
end Go.Proofs.YtincbbnppcpfpaaDoor
