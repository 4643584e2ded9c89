import Derived.Test.YtpnacppmdlnjlaaLzT
import Derived.Lib.AppendZeros
namespace Go.Proofs.Ytpnacppmdlnjlaa
open Go.RowKit
set_option linter.unusedVariables false
theorem one_byte (w : World) (x : By) : Sl (fun _ => False) (.slice (some ⟨w.heap.size, 0, none⟩) 1 1) [x] (w.alloc (.cells #[.int .u8 x.toNat] 5)) := by
  refine .inr ⟨w.heap.size, fun h => h, 0, 1, rfl, by simp, by decide, ?_⟩
  intro j hj
  obtain rfl : j = 0 := by simp at hj; exact hj
  exact new_cell _ _ _ _ _ rfl
/-- One byte more. -/
theorem copied_step (K : Nat → Prop) (l : List By) (back : Nat) (hb : 1 ≤ back) (hbl : back ≤ l.length) (wr : World) (hK : ∀ k, K k → k < wr.heap.size) (v : Value) (h : Mine K v l wr) (hs : l.length ≤ 1000000000) :
    ∃ g c v' W, v = .slice (some ⟨g, 0, none⟩) l.length c ∧ l.length ≤ c ∧ c < 9223372036854775808 ∧ wr.cell? ⟨g, l.length - back, none⟩ = some (.int .u8 (l.getD (l.length - back) 0).toNat) ∧ g < wr.heap.size ∧
      Hid (∀ ty, (Builtin.append_ #[22, 22] ty #[.slice (some ⟨g, 0, none⟩) l.length c, .slice (some ⟨wr.heap.size, 0, none⟩) 1 1]).run Try.prog (wr.alloc (.cells #[.int .u8 (l.getD (l.length - back) 0).toNat] 5)) = .ok v' W) ∧
      Hid (Mine K v' (l ++ [l.getD (l.length - back) 0]) W ∧ Fr (fun k => ¬ K k) wr W) := by
  have h0 := h
  rcases h with ⟨_, rfl⟩ | ⟨g, hg, hO⟩
  · simp at hbl; omega
  have hO' := hO
  obtain ⟨xs, rfl, x2, x3, x4, x5⟩ := hO'
  have hN : Nw wr (wr.alloc (.cells #[.int .u8 (l.getD (l.length - back) 0).toNat] 5)) := (Fr.refl _ _).alloc _
  have hsz : (wr.alloc (.cells #[.int .u8 (l.getD (l.length - back) 0).toNat] 5)).heap.size = wr.heap.size + 1 := by simp
  obtain ⟨v', W, hap, hM, hF⟩ := mine_app K _ (fun k hk => by rw [hsz]; have := hK k hk; omega) _ l (h0.nw hN) _ _ (one_byte wr (l.getD (l.length - back) 0)) (by simp; omega)
  refine ⟨g, xs.length, v', W, rfl, x3, x4, ?_, hO.lt, hap, hM, hN.any.trans hF⟩
  have := hO.at (l.length - back) (by omega)
  rw [this.1, List.getD_eq_getElem?_getD, List.getElem?_eq_getElem (by omega)]
  rfl
set_option maxHeartbeats 8000000 in
set_option maxRecDepth 100000 in
theorem rcopied_any (K : Nat → Prop) (l : List By) (back n : Nat) (hb : 1 ≤ back) (hbl : back ≤ l.length) (w : World) (hK : ∀ k, K k → k < w.heap.size) (v : Value) (h : Mine K v l w) (hs : l.length + n ≤ 1000000000) :
    Calls Try.prog 32 #[v, .int .i64 back, .int .i64 n] w fun e w' => ∃ v', e = .returned v' ∧ Mine K v' (cop l back n) w' ∧ Fr (fun k => ¬ K k) w w' := by
  obtain ⟨P, hP⟩ : ∃ P : Ending → World → Prop, P = fun e w' => ∃ v', e = .returned v' ∧ Mine K v' (cop l back n) w' ∧ Fr (fun k => ¬ K k) w w' := ⟨_, rfl⟩
  rw [← hP]
  have HP : Hid (P = fun e w' => ∃ v', e = .returned v' ∧ Mine K v' (cop l back n) w' ∧ Fr (fun k => ¬ K k) w w') := hP
  have HI0 : Hid (Mine K v (cop l back 0) w ∧ Fr (fun k => ¬ K k) w w) := ⟨h, Fr.refl _ _⟩
  have HK : Hid (∀ k, K k → k < w.heap.size) := hK
  have HS : Hid (∀ i wr v, i ≤ n → Mine K v (cop l back i) wr → Fr (fun k => ¬ K k) w wr → _) := fun i wr v hi hm hf => copied_step K (cop l back i) back hb (by rw [cop_length]; omega) wr (fun k hk => Nat.lt_of_lt_of_le (HK.out k hk) hf.size) v hm (by rw [cop_length]; omega)
  clear hP h hK
  go_enter Try.func32, Try.ntmps32
  go_wp2
  go_loopg [0, 7] n (fun kx x i wr => ∃ (I : Nat), I ≤ n ∧ n - I ≤ kx ∧ i = .int .i64 I ∧ Hid (Mine K x (cop l back I) wr ∧ Fr (fun k => ¬ K k) w wr))
  case atStart => exact ⟨0, by omega, by omega, rfl, HI0⟩
  case round =>
    obtain ⟨I, hI, hkx, rfl, HI⟩ := hrel
    clear HI0
    obtain ⟨hM, hF⟩ := HI.out
    by_cases hlt : I < n
    · obtain ⟨g, c, v', W, rfl, hc, hc2, hcell, hgl, HAP, HN⟩ := HS.out I wr u0 hI hM hF
      have HN' : Hid (Mine K v' (cop l back (I + 1)) W ∧ Fr (fun k => ¬ K k) w W) := ⟨HN.out.1, hF.trans HN.out.2⟩
      have hcl := cop_length l back I
      generalize (cop l back I).getD ((cop l back I).length - back) 0 = x at *
      clear HS HI hM hF HN HP HK
      generalize (cop l back I).length = ln at *
      have hxl := x.isLt
      have hz1 : (ln : Int) - (back : Int) = ((ln - back : Nat) : Int) := by omega
      have hz2 : ((ln - back : Nat) : Int) < (ln : Int) := by omega
      have hz3 : (I : Int) < (n : Int) := by omega
      have hne : ¬ g = wr.heap.size := by omega
      generalize hk : ln - back = kk at *
      clear hk hcl
      go_wp2_with (first
        | (at_builtin; refine Lib.wpList_append_run _ rfl _ _ 22 22 rfl (.slice (some ⟨g, 0, none⟩) ln c) (.slice (some ⟨wr.heap.size, 0, none⟩) 1 1) (by simp [Act.eval]) (by simp [Act.eval]) _ _ (HAP.out _) ?_))
      go_roundg (n - (I + 1))
      case measure => omega
      case rel => exact ⟨I + 1, by omega, by omega, by first | rfl | (congr 1), HN'⟩
    · obtain rfl : I = n := by omega
      have HF : Hid (P (.returned u0) wr) := by
        show P _ _
        rw [HP.out]
        exact ⟨_, rfl, hM, hF⟩
      clear HS HI hM hF HP HK
      go_wp2_with fail
      exact HF.out
/-- The end of the bytes ahead that counts. -/
def win (ahead : List By) : List By := ahead.drop (ahead.length - 65535)
theorem win_length (ahead : List By) : (win ahead).length = min ahead.length 65535 := by simp [win]; omega
set_option maxHeartbeats 8000000 in
set_option maxRecDepth 100000 in
theorem rwindow_any (w : World) (va : Value) (ahead : List By) (ha : Old w va ahead) (hal : ahead.length ≤ 140737488351232) :
    Calls Try.prog 29 #[va] w fun e w' => ∃ g c, e = .returned (.slice (some ⟨g, 0, none⟩) (win ahead).length c) ∧ w.heap.size ≤ g ∧ Ow g (.slice (some ⟨g, 0, none⟩) (win ahead).length c) (win ahead) w' ∧ Nw w w' := by
  obtain ⟨P, hP⟩ : ∃ P : Ending → World → Prop, P = fun e w' => ∃ g c, e = .returned (.slice (some ⟨g, 0, none⟩) (win ahead).length c) ∧ w.heap.size ≤ g ∧ Ow g (.slice (some ⟨g, 0, none⟩) (win ahead).length c) (win ahead) w' ∧ Nw w w' := ⟨_, rfl⟩
  rw [← hP]
  have HP : Hid (P = fun e w' => ∃ g c, e = .returned (.slice (some ⟨g, 0, none⟩) (win ahead).length c) ∧ w.heap.size ≤ g ∧ Ow g (.slice (some ⟨g, 0, none⟩) (win ahead).length c) (win ahead) w' ∧ Nw w w') := hP
  clear hP
  have key : ∀ x, Sl (fun k => w.heap.size ≤ k) x (win ahead) w → ∃ v' W, Hid (∀ ty, (Builtin.append_ #[22, 22] ty #[.slice (some ⟨w.heap.size, 0, none⟩) 0 0, x]).run Try.prog (w.alloc (.cells #[] 5)) = .ok v' W) ∧ Hid (P (.returned v') W) := by
    intro x hx
    obtain ⟨v', g', W, k1, k2, k3, k4⟩ := app_any (w.alloc (.cells #[] 5)) w.heap.size _ [] (Ow.empty w) x (win ahead) ((hx.nw ((Fr.refl _ _).alloc _)).mono (fun _ h => h.elim)) (by have := win_length ahead; simp; omega)
    rw [List.nil_append] at k2
    refine ⟨v', W, k1, ?_⟩
    show P _ _
    rw [HP.out]
    have k2' := k2
    obtain ⟨xs, e, _⟩ := k2'
    refine ⟨g', xs.length, by rw [e], ?_, by rw [← e]; exact k2, Fr.then ((Fr.refl _ _).alloc _) k3 (fun i hi => .inr (by omega))⟩
    rcases k4 with h | h
    · omega
    · simp at h; omega
  by_cases hbig : 65535 < ahead.length
  · obtain ⟨a, c, rfl, hc, hc2, hao⟩ : ∃ a c, va = .slice a ahead.length c ∧ ahead.length ≤ c ∧ c < 9223372036854775808 ∧ (ahead ≠ [] → ∃ g o, a = some ⟨g, o, none⟩ ∧ g < w.heap.size ∧ Rd g o ahead w) := by
      rcases ha with ⟨a, rfl, rfl⟩ | ⟨g, hg, o, c, rfl, h1, h2, h3⟩
      · simp at hbig
      · exact ⟨_, c, rfl, h1, h2, fun _ => ⟨g, o, rfl, by omega, h3⟩⟩
    obtain ⟨g, o, rfl, hg, hrd⟩ := hao (by intro e; rw [e] at hbig; simp at hbig)
    have hwl := win_length ahead
    obtain ⟨v', W, HAP, HF⟩ := key (.slice (some ⟨g, o + (ahead.length - 65535), none⟩) 65535 (c - (ahead.length - 65535))) (.inr ⟨g, by omega, _, _, by rw [hwl, Nat.min_eq_right (by omega)], by omega, by omega, hrd.drop _⟩)
    clear key HP ha hao hrd hwl
    generalize ahead.length = al at *
    have hz1 : (al : Int) - 65535 = ((al - 65535 : Nat) : Int) := by omega
    have hz2 : ((al - 65535 : Nat) : Int) ≤ (al : Int) := by omega
    have hz3 : ¬ c = al - 65535 := by omega
    have hz4 : al - (al - 65535) = 65535 := by omega
    generalize al - 65535 = kk at *
    have hz5 : (65535 : Int) < (al : Int) := by omega
    go_enter Try.func29, Try.ntmps29
    go_wp2_with (first
      | (at_builtin; refine Lib.wpList_append_run _ rfl _ _ 22 22 rfl (.slice (some ⟨w.heap.size, 0, none⟩) 0 0) (.slice (some ⟨g, o + kk, none⟩) 65535 (c - kk)) (by simp [Act.eval]) (by simp [Act.eval]) _ _ (HAP.out _) ?_))
    exact HF.out
  · have hwe : win ahead = ahead := by unfold win; rw [show ahead.length - 65535 = 0 by omega]; rfl
    obtain ⟨v', W, HAP, HF⟩ := key va (by rw [hwe]; exact ha)
    obtain ⟨a, c, rfl, hc, hc2⟩ := ha.form
    clear key HP ha hwe
    generalize ahead.length = al at *
    have hz5 : ¬ (65535 : Int) < (al : Int) := by omega
    go_enter Try.func29, Try.ntmps29
    go_wp2_with (first
      | (at_builtin; refine Lib.wpList_append_run _ rfl _ _ 22 22 rfl (.slice (some ⟨w.heap.size, 0, none⟩) 0 0) (.slice a al c) (by simp [Act.eval]) (by simp [Act.eval]) _ _ (HAP.out _) ?_))
    exact HF.out
end Go.Proofs.Ytpnacppmdlnjlaa
