import Derived.Test.YtpnacppmdlnjlaaMaE
namespace Go.Proofs.Ytpnacppmdlnjlaa
open Go.RowKit
set_option linter.unusedVariables false
/-- How many plain bytes sequences come to. -/
def tot : List Si → Nat
  | [] => 0
  | s :: r => s.p.length + s.n.toNat + tot r
theorem tot_append (x y : List Si) : tot (x ++ y) = tot x + tot y := by
  induction x with
  | nil => simp [tot]
  | cons s r ih => simp only [List.cons_append, tot, ih]; omega
theorem tot_step (l : List Si) (I : Nat) (h : I < l.length) : tot (l.take (I + 1)) = tot (l.take I) + (l[I].p.length + l[I].n.toNat) := by
  rw [← List.take_append_getElem h, tot_append]
  simp [tot]
theorem tot_take (l : List Si) (I : Nat) : tot (l.take I) ≤ tot l := by
  conv => rhs; rw [← List.take_append_drop I l, tot_append]
  omega
theorem CanB.pos {l : List Si} (h : CanB l) (s : Si) (hs : s ∈ l) : 0 ≤ s.n := by
  obtain ⟨i, hi, rfl⟩ := List.mem_iff_getElem.1 hs
  by_cases h2 : i + 1 < l.length
  · have := (h.2.1 i h2).2.2; omega
  · have hl := h.2.2 (by omega)
    have e : l.length - 1 = i := by omega
    simp only [e] at hl
    rw [hl.2]; omega
set_option maxHeartbeats 8000000 in
set_option maxRecDepth 100000 in
theorem fits_any (X : Nat → Prop) (w : World) (v : Value) (l : List Si) (hl : SqR X v l w) (hp : ∀ s ∈ l, 0 ≤ s.n) (r : Bool) (hr : r = true ↔ tot l ≤ 4194304) :
    Calls Try.prog 34 #[v] w fun e w' => e = .returned (.bool r) ∧ Nw w w' := by
  obtain ⟨P, hP⟩ : ∃ P : Ending → World → Prop, P = fun e w' => e = .returned (.bool r) ∧ Nw w w' := ⟨_, rfl⟩
  rw [← hP]
  have HP : Hid (P = fun e w' => e = .returned (.bool r) ∧ Nw w w') := hP
  clear hP
  have HT : Hid (tot l ≤ 4194304 → ∀ V, Nw w V → P (.returned (.bool true)) V) := fun h V hV => by
    rw [HP.out]; rw [hr.2 h]; exact ⟨rfl, hV⟩
  have HF : Hid (¬ tot l ≤ 4194304 → ∀ V, Nw w V → P (.returned (.bool false)) V) := fun h V hV => by
    rw [HP.out]
    have : r = false := by cases r with
      | false => rfl
      | true => exact absurd (hr.1 rfl) h
    rw [this]; exact ⟨rfl, hV⟩
  obtain ⟨a, c, rfl, hc, hc2, hL⟩ := hl.form
  have HL : Hid (SqR X (.slice a l.length c) l w) := hl
  have Hp : Hid (∀ s ∈ l, 0 ≤ s.n) := hp
  clear hl hr HP hp
  generalize hln : l.length = L at *
  have hln' : Hid (l.length = L) := hln
  clear hln
  go_enter Try.func34, Try.ntmps34
  go_wp2
  go_loopg [3, 8] L (fun kx f i wr => ∃ (I F : Nat), I ≤ L ∧ L - I ≤ kx ∧ i = .int .i64 I ∧ f = .int .i64 F ∧ F ≤ 4194304 ∧ Hid (Nw w wr ∧ tot (l.take I) + F = 4194304))
  case atStart => exact ⟨0, 4194304, by omega, by omega, rfl, rfl, by omega, Fr.refl _ _, by simp [tot]⟩
  case round =>
    obtain ⟨I, F, hI, hkx, rfl, rfl, hF, HI⟩ := hrel
    have hN := HI.out.1
    by_cases hlt : I < L
    · have hlt' : I < l.length := by rw [hln'.out]; omega
      obtain ⟨g, o, pa, pc, _, rfl, x0, x1, x2, _, hpl⟩ := (HL.out.nw hN).at I hlt'
      have hz : (I : Int) < (L : Int) := by omega
      have hpos := Hp.out _ (List.getElem_mem hlt')
      have hA : Nw w (wr.alloc (.cells #[.slice pa l[I].p.length pc, .int .i64 l[I].b, .int .i64 l[I].n] 36)) := hN.alloc _
      have hst := tot_step l I hlt'
      have htk := tot_take l (I + 1)
      have hsum := HI.out.2
      have HNo : Hid (F < l[I].p.length + l[I].n.toNat → P (.returned (.bool false)) (wr.alloc (.cells #[.slice pa l[I].p.length pc, .int .i64 l[I].b, .int .i64 l[I].n] 36))) := fun h => HF.out (by omega) _ hA
      have HY : Hid (l[I].p.length + l[I].n.toNat ≤ F → tot (l.take (I + 1)) + (F - (l[I].p.length + l[I].n.toNat)) = 4194304) := fun h => by omega
      clear HI HL HT HF Hp hst htk hsum
      generalize l[I].p.length = pn at *
      generalize l[I].b = zb at *
      generalize l[I].n = q at *
      obtain ⟨zn, rfl⟩ : ∃ k : Nat, q = k := ⟨q.toNat, by omega⟩
      rw [Int.toNat_natCast] at HNo HY
      clear hpos
      by_cases g1 : F < pn
      · have HF' : Hid (P _ _) := HNo.out (by omega)
        have hz1 : (F : Int) < (pn : Int) := by omega
        clear HNo HY
        go_wp2
        exact HF'.out
      have hz1 : ¬ (F : Int) < (pn : Int) := by omega
      have hz2 : (F : Int) - (pn : Int) = ((F - pn : Nat) : Int) := by omega
      have hz4 : (pn : Int) + (zn : Int) = ((pn + zn : Nat) : Int) := by omega
      by_cases g2 : F - pn < zn
      · have HF' : Hid (P _ _) := HNo.out (by omega)
        have hz3 : ((F - pn : Nat) : Int) < (zn : Int) := by omega
        generalize F - pn = F1 at *
        clear HNo HY
        go_wp2
        exact HF'.out
      have hz3 : ¬ ((F - pn : Nat) : Int) < (zn : Int) := by omega
      have hz5 : (F : Int) - ((pn + zn : Nat) : Int) = ((F - (pn + zn) : Nat) : Int) := by omega
      have HY' : Hid (tot (l.take (I + 1)) + (F - (pn + zn)) = 4194304) := HY.out (by omega)
      have hF2 : F - (pn + zn) ≤ 4194304 := by omega
      have hpz : pn + zn ≤ 4194304 := by omega
      generalize F - pn = F1 at *
      generalize F - (pn + zn) = F2 at *
      generalize pn + zn = PZ at *
      clear HNo HY g2 g1
      go_wp2
      go_roundg (L - (I + 1))
      all_goals (first | omega | exact ⟨I + 1, F2, by omega, by omega, by first | rfl | (congr 1), rfl, hF2, hA, HY'.out⟩)
    · obtain rfl : I = L := by omega
      have HF' : Hid (P (.returned (.bool true)) wr) := HT.out (by
        have := HI.out.2
        rw [← hln'.out, List.take_length] at this
        omega) _ hN
      have hz : ¬ (I : Int) < (I : Int) := by omega
      clear HI HL HT HF hlt Hp
      go_wp2
      exact HF'.out
end Go.Proofs.Ytpnacppmdlnjlaa
