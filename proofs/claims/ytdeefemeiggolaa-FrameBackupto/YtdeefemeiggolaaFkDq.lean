import Derived.Test.YtdeefemeiggolaaFkCq
namespace Go.Proofs.Ytdeefemeiggolaa
open Go.RowKit
set_option linter.unusedVariables false
variable {w : World} {l : List Prt} {i n : Nat} {va vp : Value} {all plain : List By} {V : World}
theorem BkI.same (h : BkI w l i va all vp plain n V) {t : Prt} (ht : l[i]? = some t) {V' : World} (f : Nw V V') : BkI w l (i + 1) va all vp plain n V' := by
  obtain ⟨h1, h2, h3, h4, h5, h6⟩ := h
  have hw := wgt_take l i t ht
  exact ⟨h1.nw f, h2, by omega, by omega, by omega, h6.trans f⟩
theorem BkI.nw (h : BkI w l i va all vp plain n V) {V' : World} (f : Nw V V') : BkI w l i va all vp plain n V' := by
  obtain ⟨h1, h2, h3, h4, h5, h6⟩ := h
  exact ⟨h1.nw f, h2, h3, h4, h5, h6.trans f⟩
theorem skip_len (u : Nat) (x : List By) : (skipB u x).length = 8 + x.length := by unfold skipB; simp only [List.length_append, lows_length]
theorem BkI.skipOk (h : BkI w l i va all vp plain n V) {t : Prt} (ht : l[i]? = some t) (hwl : wgt l ≤ 1048576) (u : Nat) (hu : u ≤ 15) (x : Value) (hx : Sl (fun _ => False) x (skipB u t.b) V) :
    ∃ a' k' W, Hid (∀ ty, (Builtin.append_ #[22, 22] ty #[va, x]).run Try.prog V = .ok (.slice a' (all.length + (skipB u t.b).length) k') W) ∧ Nw w W ∧ Hid (BkI w l (i + 1) (.slice a' (all.length + (skipB u t.b).length) k') (all ++ skipB u t.b) vp plain (n + 1) W) := by
  obtain ⟨h1, h2, h3, h4, h5, h6⟩ := h
  have hw := wgt_take l i t ht
  have hw1 := wgt_le l i
  have hw2 := wgt_le l (i + 1)
  have hsl := skip_len u t.b
  obtain ⟨a', k', W, hap, hT, hF⟩ := h1.app h6.size x _ hx (by omega)
  have hN : Nw w W := Fr.then h6 hF (fun i hi => .inr hi)
  refine ⟨a', k', W, hap, hN, hT, ?_, by rw [List.length_append]; omega, by omega, by omega, hN⟩
  have := h2.step (fr := skipB u t.b) (pl := []) (by omega) (fun post most hm1 hm2 => by
    obtain ⟨f, e1, e2⟩ := skip_read u hu t.b (by omega) most all post plain
    exact ⟨f, by rw [List.append_nil]; exact e1, e2⟩)
  rw [List.append_nil] at this
  exact this
theorem BkI.encOk (h : BkI w l i va all vp plain n V) {t : Prt} (ht : l[i]? = some t) (hwl : wgt l ≤ 1048576) (s : Shp) (hs1 : 4 ≤ s.block) (hs2 : s.block ≤ 7) (bl : List By) (hE : EncB s t.b 0 bl) (x : Value) (hx : Sl (fun _ => False) x (frameB s t.b bl) V) :
    ∃ a' k' W, Hid (∀ ty, (Builtin.append_ #[22, 22] ty #[va, x]).run Try.prog V = .ok (.slice a' (all.length + (frameB s t.b bl).length) k') W) ∧ Nw w W ∧ Hid (∀ V', Nw W V' → ∀ y, Sl (fun _ => False) y t.b V' → ∃ a2 k2 W2, Hid (∀ ty, (Builtin.append_ #[22, 22] ty #[vp, y]).run Try.prog V' = .ok (.slice a2 (plain.length + t.b.length) k2) W2) ∧ Hid (BkI w l (i + 1) (.slice a' (all.length + (frameB s t.b bl).length) k') (all ++ frameB s t.b bl) (.slice a2 (plain.length + t.b.length) k2) (plain ++ t.b) (n + 1) W2)) := by
  obtain ⟨h1, h2, h3, h4, h5, h6⟩ := h
  have hw := wgt_take l i t ht
  have hw1 := wgt_le l i
  have hw2 := wgt_le l (i + 1)
  have hfl := frameB_len s t.b bl hE
  have hdv : t.b.length / siz s ≤ t.b.length := Nat.div_le_self _ _
  have hfl2 : (frameB s t.b bl).length ≤ 100 * (t.b.length + 1) := by omega
  obtain ⟨a', k', W, hap, hT, hF⟩ := h1.app h6.size x _ hx (by omega)
  have hN : Nw w W := Fr.then h6 hF (fun i hi => .inr hi)
  refine ⟨a', k', W, hap, hN, fun V' hV' y hy => ?_⟩
  obtain ⟨a2, k2, W2, hap2, hT2, hF2⟩ := (hT.nw hV').swap.app (hN.trans hV').size y _ hy (by omega)
  have hN2 : Nw w W2 := Fr.then (hN.trans hV') hF2 (fun i hi => .inr hi)
  have hf0 : 0 < (frameB s t.b bl).length := by unfold frameB; simp only [List.length_append, lows_length]; omega
  refine ⟨a2, k2, W2, hap2, hT2.swap, ?_, by rw [List.length_append]; omega, by rw [List.length_append]; omega, by omega, hN2⟩
  exact h2.step hf0 (fun post most hm1 hm2 => frame_read s hs1 hs2 t.b bl hE (by omega) most hm2 all post plain (by omega))
theorem BkI.fin (h : BkI w l i va all vp plain n V) (hwl : wgt l ≤ 1048576) : all.length ≤ 8000000000 ∧ plain.length ≤ 1048576 ∧ fdec all plain.length = (plain, all.length, 0) ∧ ∃ fs : List Fm, fs.length = n ∧ ffr all plain.length = (fs, all.length, 0) := by
  obtain ⟨h1, h2, h3, h4, h5, h6⟩ := h
  have hw1 := wgt_le l i
  obtain ⟨fs, e1, e2⟩ := h2.fin (by omega)
  refine ⟨by omega, by omega, ?_, fs, e1, ?_⟩
  · unfold fdec; rw [if_neg (by omega), Int.toNat_natCast, e2]
  · unfold ffr; rw [if_neg (by omega), Int.toNat_natCast, e2]
end Go.Proofs.Ytdeefemeiggolaa
