import Derived.Test.YtffhpoilifgcdaaDoorNlW
import Derived.BigRegion
namespace Go.Proofs.YtffhpoilifgcdaaDoor
open Go.RowKit
set_option linter.unusedVariables false
/-! ### The document's decimal and Put -/
def dig (d : Nat) : By := BitVec.ofNat 8 (48 + d)
theorem dig_nat (d : Nat) (h : d < 10) : (dig d).toNat = 48 + d := (isDg_of d h).2
def NewO (w : World) (l : List By) (e : Ending) (V : World) : Prop := ∃ g k c, e = .returned (.slice (some ⟨g, 0, none⟩) k c) ∧ Hid (Ow g (.slice (some ⟨g, 0, none⟩) k c) l V ∧ Nw w V ∧ w.heap.size ≤ g)
theorem own_one (V : World) (x : By) (z : Int) (hz : z = x.toNat) : Ow V.heap.size (.slice (some ⟨V.heap.size, 0, none⟩) 1 1) [x] (V.alloc (.cells #[.int .u8 z] 5)) := by
  subst hz
  exact ⟨[x], rfl, rfl, by simp, by simp, by show (V.heap.push _)[V.heap.size]? = _; simp⟩
set_option maxHeartbeats 4000000 in
set_option maxRecDepth 100000 in
theorem rdgt_any (w : World) (u : Nat) (hu : u ≤ 9223372036854775807) : Calls Tryd.prog 27 #[.int .i64 u] w (NewO w (dgt u)) := by
  obtain ⟨P, hP⟩ : ∃ P : Ending → World → Prop, P = NewO w (dgt u) := ⟨_, rfl⟩
  rw [← hP]
  have HF : Hid (∀ V g k c, Ow g (.slice (some ⟨g, 0, none⟩) k c) (dgt u) V → Nw w V → w.heap.size ≤ g → P (.returned (.slice (some ⟨g, 0, none⟩) k c)) V) := fun V g k c h1 h2 h3 => by rw [hP]; exact ⟨g, k, c, rfl, h1, h2, h3⟩
  clear hP
  have hr1 : (u : Int).tmod 10 = ((u % 10 : Nat) : Int) := by rw [Int.tmod_eq_emod_of_nonneg (by omega)]; omega
  have hr2 : (u : Int) % 10 = ((u % 10 : Nat) : Int) := by omega
  have hlt := Nat.mod_lt u (show 0 < 10 by omega)
  obtain ⟨r, hr⟩ : ∃ r, u % 10 = r := ⟨_, rfl⟩
  rw [hr] at hr1 hr2 hlt
  obtain ⟨z, hz⟩ : ∃ z, 48 + r = z := ⟨_, rfl⟩
  have hz1 : (48 : Int) + (r : Int) = (z : Int) := by omega
  have hzn : ((z : Nat) : Int) = (dig r).toNat := by rw [dig_nat r hlt]; omega
  have HO : Hid (Ow w.heap.size (.slice (some ⟨w.heap.size, 0, none⟩) 1 1) [dig r] (w.alloc (.cells #[.int .u8 (z : Int)] 5))) := own_one w (dig r) z hzn
  have HR := tHid hr
  have hzb : (z : Int) < 256 := by omega
  clear hz hzn hr
  go_enter Tryd.func27, Tryd.ntmps27
  go_upto_region 2 with fail
  go_loopg [0, 3] u (fun kx n v wr => ∃ (N g k c : Nat), N ≤ kx ∧ N ≤ u ∧ n = .int .i64 N ∧ v = .slice (some ⟨g, 0, none⟩) k c ∧ Hid (∃ rest, dgt u = dgt N ++ rest ∧ Ow g (.slice (some ⟨g, 0, none⟩) k c) (dig (N % 10) :: rest) wr ∧ Nw w wr ∧ w.heap.size ≤ g ∧ rest.length ≤ 20))
  case atStart => exact ⟨u, w.heap.size, 1, 1, by omega, by omega, rfl, rfl, [], by simp, by rw [HR.out]; exact HO.out, (Fr.refl _ _).alloc _, Nat.le_refl _, by simp⟩
  case round =>
    obtain ⟨N, g, k, c, hN, hNu, rfl, rfl, HI⟩ := hrel
    obtain ⟨rest, h1, h2, h3, h4, h5⟩ := HI.out
    by_cases hlt10 : N < 10
    · have HF2 := tHid (HF.out wr g k c (by rw [h1, dgt_small hlt10]; rw [Nat.mod_eq_of_lt hlt10] at h2; exact h2) h3 h4)
      have hge : ¬ (10 : Int) ≤ (N : Int) := by omega
      clear HF HI h1 h2 h3 h4 HO
      go_wp2_with fail
      first | exact HF2.out | (go_ret; exact HF2.out)
    · have hge : (10 : Int) ≤ (N : Int) := by omega
      have hq1 : (N : Int).tdiv 10 = ((N / 10 : Nat) : Int) := by rw [Int.tdiv_eq_ediv_of_nonneg (by omega)]; omega
      have hq2 : (N : Int) / 10 = ((N / 10 : Nat) : Int) := by omega
      have hbig := dgt_big hlt10
      obtain ⟨Q, hQ⟩ : ∃ Q, N / 10 = Q := ⟨_, rfl⟩
      have hQN : Q < N := by omega
      rw [hQ] at hq1 hq2 hbig
      have s1 : (Q : Int).tmod 10 = ((Q % 10 : Nat) : Int) := by rw [Int.tmod_eq_emod_of_nonneg (by omega)]; omega
      have s2 : (Q : Int) % 10 = ((Q % 10 : Nat) : Int) := by omega
      have hlt2 := Nat.mod_lt Q (show 0 < 10 by omega)
      obtain ⟨r2, hr2'⟩ : ∃ r2, Q % 10 = r2 := ⟨_, rfl⟩
      rw [hr2'] at s1 s2 hlt2
      obtain ⟨z2, hz2⟩ : ∃ z2, 48 + r2 = z2 := ⟨_, rfl⟩
      have hz21 : (48 : Int) + (r2 : Int) = (z2 : Int) := by omega
      have hz2b : (z2 : Int) < 256 := by omega
      have hN2 : Nw wr (wr.alloc (.cells #[.int .u8 (z2 : Int)] 5)) := (Fr.refl _ _).alloc _
      have hrl : rest.length ≤ 19 := by
        have e1 := congrArg List.length h1
        rw [List.length_append] at e1
        have e2 := dgt_short u (by omega)
        have e3 : 1 ≤ (dgt N).length := by have := dgt_ne N; cases hd : dgt N with | nil => exact absurd hd this | cons x y => simp
        omega
      obtain ⟨v', g', W, q1, q2, q3, q4⟩ := app_any _ _ _ [dig r2] (own_one wr (dig r2) z2 (by rw [dig_nat r2 hlt2]; omega)) (.slice (some ⟨g, 0, none⟩) k c) (dig (N % 10) :: rest) (.inr ⟨g, fun h => h, (h2.nw hN2).slb⟩) (by simp; omega)
      obtain ⟨xs, rfl, _⟩ := id q2
      have hs0 : ∀ o, (wr.alloc o).heap.size = wr.heap.size + 1 := fun o => by simp
      rw [hs0] at q4
      have hwr := h3.size
      have HA : Hid (∀ ty, (Builtin.append_ #[23, 23] ty #[.slice (some ⟨wr.heap.size, 0, none⟩) 1 1, .slice (some ⟨g, 0, none⟩) k c]).run Tryd.prog (wr.alloc (.cells #[.int .u8 (z2 : Int)] 5)) = .ok (.slice (some ⟨g', 0, none⟩) ([dig r2] ++ dig (N % 10) :: rest).length xs.length) W) := q1
      have HNX : Hid (∃ rest, dgt u = dgt Q ++ rest ∧ Ow g' (.slice (some ⟨g', 0, none⟩) ([dig r2] ++ dig (N % 10) :: rest).length xs.length) (dig (Q % 10) :: rest) W ∧ Nw w W ∧ w.heap.size ≤ g' ∧ rest.length ≤ 20) ∨ True := .inr trivial
      have HNY : Hid (∃ rest', dgt u = dgt Q ++ rest' ∧ Ow g' (.slice (some ⟨g', 0, none⟩) ([dig r2] ++ dig (N % 10) :: rest).length xs.length) (dig (Q % 10) :: rest') W ∧ Nw w W ∧ w.heap.size ≤ g' ∧ rest'.length ≤ 20) := by
        refine ⟨dig (N % 10) :: rest, ?_, by rw [hr2']; exact q2, (h3.trans hN2).then q3 (fun i hi => .inr (by omega)), by rcases q4 with e | e <;> omega, by rw [List.length_cons]; omega⟩
        rw [h1, hbig, List.append_assoc]
        rfl
      clear HNX HF HI h1 h2 h3 h4 HO q1 q2 q3 q4 hbig hQ hr2' hz2 hN2 hs0
      generalize ([dig r2] ++ dig (N % 10) :: rest).length = kk at *
      generalize xs.length = cc at *
      go_wp2_with (first
        | (at_builtin; refine Lib.wpList_append_run _ rfl _ _ 23 23 rfl (.slice (some ⟨wr.heap.size, 0, none⟩) 1 1) (.slice (some ⟨g, 0, none⟩) k c) (by first | rfl | simp [Act.eval]) (by first | rfl | simp [Act.eval]) _ _ (HA.out _) ?_))
      go_roundg Q
      case measure => omega
      case rel => exact ⟨Q, g', kk, cc, Nat.le_refl _, by omega, rfl, rfl, HNY⟩
end Go.Proofs.YtffhpoilifgcdaaDoor
