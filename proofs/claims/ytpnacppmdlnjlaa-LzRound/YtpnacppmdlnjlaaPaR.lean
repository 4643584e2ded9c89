import Derived.Test.YtpnacppmdlnjlaaPaB
import Derived.Test.YtpnacppmdlnjlaaLzW
namespace Go.Proofs.Ytpnacppmdlnjlaa
open Go.RowKit
set_option linter.unusedVariables false
theorem ls_match (b : List By) (lo t : Nat) (s : Ls) : matchS ls b.length lo (b.drop t) s = if (mtc b lo t).2.2.2 = 0 then .ok (b.drop (mtc b lo t).2.2.1) (ls.mat s (mtc b lo t).1 (mtc b lo t).2.1) else .bad (mtc b lo t).2.2.1 (mtc b lo t).2.2.2 := by
  by_cases h2 : t + 1 < b.length
  · rw [matchS_at ls b lo t s h2]
    by_cases h0 : b[t].toNat + 256 * b[t + 1].toNat = 0
    · have hm : mtc b lo t = (0, 0, t, 30) := by
        have hdr : b.drop t = b[t] :: b[t + 1] :: b.drop (t + 2) := by rw [List.drop_eq_getElem_cons (by omega), List.drop_eq_getElem_cons h2]
        unfold mtc
        rw [hdr]
        simp only [if_pos h0]
      rw [if_pos (.inl h0), hm]
      rfl
    · rw [if_neg (fun h => by rcases h with h | h; exact h0 h; cases h), mtc_at b lo t h2 h0]
      cases hn : num lo (b.drop (t + 2)) with
      | none => rfl
      | some p =>
        obtain ⟨n, k⟩ := p
        simp only [List.drop_drop]
        rfl
  · have hl2 : (b.drop t).length < 2 := by simp; omega
    unfold matchS mtc
    match hm : b.drop t, hl2 with
    | [], _ => rfl
    | [x], _ => rfl
    | x :: y :: r, h => simp at h; omega
/-- The list alone counts. -/
theorem ls_now (L : Nat) (r : List By) (l : List Sq) (n1 n2 : Sq) (f1 f2 : Nat) : scanS ls L r ⟨l, n1, f1⟩ = scanS ls L r ⟨l, n2, f2⟩ := by
  cases r with
  | nil => rw [scanS, scanS]
  | cons tok r1 =>
    rw [scanS_cons, scanS_cons]
    have : plainS ls L (tok.toNat / 16) r1 ⟨l, n1, f1⟩ = plainS ls L (tok.toNat / 16) r1 ⟨l, n2, f2⟩ := rfl
    rw [this]
theorem mtc_le (b : List By) (lo t : Nat) (ht : t < b.length) (hlo : lo ≤ 15) (h : (mtc b lo t).2.2.2 = 0) : t + 2 ≤ (mtc b lo t).2.2.1 ∧ (mtc b lo t).2.2.1 ≤ b.length ∧ (mtc b lo t).1 < 65536 ∧ (mtc b lo t).2.1 ≤ 300 * b.length + 300 := by
  by_cases h2 : t + 1 < b.length
  · by_cases h0 : b[t].toNat + 256 * b[t + 1].toNat = 0
    · have hdr : b.drop t = b[t] :: b[t + 1] :: b.drop (t + 2) := by rw [List.drop_eq_getElem_cons (by omega), List.drop_eq_getElem_cons h2]
      unfold mtc at h
      rw [hdr] at h
      simp only [if_pos h0] at h
      cases h
    · rw [mtc_at b lo t h2 h0] at h ⊢
      cases hn : num lo (b.drop (t + 2)) with
      | none => rw [hn] at h; cases h
      | some p =>
        obtain ⟨n, k⟩ := p
        have := num_le hn hlo
        rw [List.length_drop] at this
        have hx := b[t].isLt
        have hy := b[t + 1].isLt
        simp only
        omega
  · have hl2 : (b.drop t).length < 2 := by simp; omega
    exfalso
    unfold mtc at h
    match hm : b.drop t, hl2 with
    | [], _ => rw [hm] at h; cases h
    | [x], _ => rw [hm] at h; cases h
    | x :: y :: r, h => simp at h; omega
theorem mtc_place (b : List By) (lo t : Nat) (ht : t ≤ b.length) (h : ¬ (mtc b lo t).2.2.2 = 0) : (mtc b lo t).2.2.1 ≤ b.length := by
  unfold mtc at h ⊢
  match hm : b.drop t with
  | [] => exact Nat.le_refl _
  | [x] => exact Nat.le_refl _
  | x :: y :: r =>
    rw [hm] at h
    simp only at h ⊢
    split
    · exact ht
    · rename_i h0
      rw [if_neg h0] at h
      cases hn : num lo r with
      | none => exact Nat.le_refl _
      | some p => rw [hn] at h; simp at h
/-- The plain bytes copied. -/
theorem rp_copy (w w1 : World) (hw : Nw w w1) (x : Value) (p : List By) (hx : Sl (fun _ => False) x p w) (hb : p.length ≤ 1000000000) (cs : Array Value) (t : TypeId) :
    ∃ gp cp W2, Hid (∀ ty, (Builtin.append_ #[22, 22] ty #[.slice (some ⟨w1.heap.size + 1, 0, none⟩) 0 0, x]).run Try.prog ((w1.alloc (.cells cs t)).alloc (.cells #[] 5)) = .ok (.slice (some ⟨gp, 0, none⟩) p.length cp) W2) ∧ Hid (Ow gp (.slice (some ⟨gp, 0, none⟩) p.length cp) p W2) ∧ Hid (Nw w1 W2) ∧ w1.heap.size + 1 ≤ gp ∧ w1.heap.size + 1 ≤ W2.heap.size ∧ Hid (∀ j v, cs[j]? = some v → W2.cell? ⟨w1.heap.size, j, none⟩ = some v) := by
  have hN1 : Nw w1 (w1.alloc (.cells cs t)) := (Fr.refl _ _).alloc _
  have hsz : (w1.alloc (.cells cs t)).heap.size = w1.heap.size + 1 := by simp
  have hN2 : Nw (w1.alloc (.cells cs t)) ((w1.alloc (.cells cs t)).alloc (.cells #[] 5)) := (Fr.refl _ _).alloc _
  obtain ⟨v, gp, W2, hap, hO, hF, hg⟩ := app_any ((w1.alloc (.cells cs t)).alloc (.cells #[] 5)) (w1.alloc (.cells cs t)).heap.size _ [] (Ow.empty _) x p (hx.nw ((hw.trans hN1).trans hN2)) (by simp; omega)
  rw [List.nil_append] at hO
  have hO' := hO
  obtain ⟨xs, rfl, _⟩ := hO'
  rw [hsz] at hap hF hg
  have hgp : w1.heap.size + 1 ≤ gp := by
    rcases hg with h | h
    · omega
    · simp at h; omega
  refine ⟨gp, xs.length, W2, hap, hO, Fr.then (hN1.trans hN2) hF (fun i hi => .inr (by omega)), hgp, ?_, fun j v hv => ?_⟩
  · have := hF.size; simp at this; omega
  · exact hF.cellv (hN2.cell (new_cell _ _ _ _ _ hv)) (by show ¬ w1.heap.size = w1.heap.size + 1; omega)
end Go.Proofs.Ytpnacppmdlnjlaa
