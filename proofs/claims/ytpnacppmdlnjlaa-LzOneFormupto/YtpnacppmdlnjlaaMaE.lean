import Derived.Test.YtpnacppmdlnjlaaMaD
namespace Go.Proofs.Ytpnacppmdlnjlaa
open Go.RowKit
set_option linter.unusedVariables false
/-- A sequence, whatever its numbers. -/
structure Si where
  p : List By
  b : Int
  n : Int
/-- Sequences that can be read: in no block of X. -/
def SqR (X : Nat → Prop) (v : Value) (l : List Si) (w : World) : Prop := ∃ a c, v = .slice a l.length c ∧ l.length ≤ c ∧ c < 9223372036854775808 ∧ l.length ≤ 4000000000000 ∧ (l ≠ [] → ∃ g o, ¬ X g ∧ a = some ⟨g, o, none⟩ ∧ ∀ i (h : i < l.length), ∃ pa pc, w.cell? ⟨g, o + i * 3, none⟩ = some (.slice pa l[i].p.length pc) ∧ w.cell? ⟨g, o + i * 3 + 1, none⟩ = some (.int .i64 l[i].b) ∧ w.cell? ⟨g, o + i * 3 + 2, none⟩ = some (.int .i64 l[i].n) ∧ Sl X (.slice pa l[i].p.length pc) l[i].p w ∧ l[i].p.length ≤ 140737488351232)
theorem SqR.kept {X Y : Nat → Prop} {v : Value} {l : List Si} {w w' : World} (h : SqR X v l w) (f : Fr Y w w') (hx : ∀ g, Y g → X g) : SqR X v l w' := by
  obtain ⟨a, c, h1, h2, h3, h4, h5⟩ := h
  refine ⟨a, c, h1, h2, h3, h4, fun hl => ?_⟩
  obtain ⟨g, o, k1, k2, k3⟩ := h5 hl
  refine ⟨g, o, k1, k2, fun i hi => ?_⟩
  obtain ⟨pa, pc, x0, x1, x2, x3, x4⟩ := k3 i hi
  have hn : ¬ Y g := fun hy => k1 (hx g hy)
  exact ⟨pa, pc, f.cellv x0 hn, f.cellv x1 hn, f.cellv x2 hn, x3.kept f hx, x4⟩
theorem SqR.nw {X : Nat → Prop} {v : Value} {l : List Si} {w w' : World} (h : SqR X v l w) (f : Nw w w') : SqR X v l w' := h.kept f (fun _ h => h.elim)
theorem SqR.mono {X Y : Nat → Prop} {v : Value} {l : List Si} {w : World} (h : SqR X v l w) (hxy : ∀ g, Y g → X g) : SqR Y v l w := by
  obtain ⟨a, c, h1, h2, h3, h4, h5⟩ := h
  refine ⟨a, c, h1, h2, h3, h4, fun hl => ?_⟩
  obtain ⟨g, o, k1, k2, k3⟩ := h5 hl
  refine ⟨g, o, fun hy => k1 (hxy g hy), k2, fun i hi => ?_⟩
  obtain ⟨pa, pc, x0, x1, x2, x3, x4⟩ := k3 i hi
  exact ⟨pa, pc, x0, x1, x2, x3.mono hxy, x4⟩
theorem SqR.at {X : Nat → Prop} {a : Option Addr} {n c : Nat} {l : List Si} {w : World} (h : SqR X (.slice a n c) l w) (i : Nat) (hi : i < l.length) : ∃ g o pa pc, ¬ X g ∧ a = some ⟨g, o, none⟩ ∧ w.cell? ⟨g, o + i * 3, none⟩ = some (.slice pa l[i].p.length pc) ∧ w.cell? ⟨g, o + i * 3 + 1, none⟩ = some (.int .i64 l[i].b) ∧ w.cell? ⟨g, o + i * 3 + 2, none⟩ = some (.int .i64 l[i].n) ∧ Sl X (.slice pa l[i].p.length pc) l[i].p w ∧ l[i].p.length ≤ 140737488351232 := by
  obtain ⟨a', c', h1, h2, h3, h4, h5⟩ := h
  injection h1 with e1 e2 e3
  obtain ⟨g, o, k1, k2, k3⟩ := h5 (by intro e; rw [e] at hi; simp at hi)
  obtain ⟨pa, pc, x⟩ := k3 i hi
  exact ⟨g, o, pa, pc, k1, e1.trans k2, x⟩
theorem SqR.form {X : Nat → Prop} {v : Value} {l : List Si} {w : World} (h : SqR X v l w) : ∃ a c, v = .slice a l.length c ∧ l.length ≤ c ∧ c < 9223372036854775808 ∧ l.length ≤ 4000000000000 := by
  obtain ⟨a, c, h1, h2, h3, h4, _⟩ := h
  exact ⟨a, c, h1, h2, h3, h4⟩
def canI (s : Si) : Prop := 1 ≤ s.b ∧ s.b ≤ 65535 ∧ 4 ≤ s.n
/-- What a block can be made of, but for its size. -/
def CanB (l : List Si) : Prop := l ≠ [] ∧ (∀ i (h : i + 1 < l.length), canI l[i]) ∧ ∀ (h : l.length - 1 < l.length), l[l.length - 1].b = 0 ∧ l[l.length - 1].n = 0
set_option maxHeartbeats 8000000 in
set_option maxRecDepth 100000 in
theorem canBe_any (X : Nat → Prop) (w : World) (v : Value) (l : List Si) (hl : SqR X v l w) (r : Bool) (hr : r = true ↔ CanB l) :
    Calls Try.prog 33 #[v] w fun e w' => e = .returned (.bool r) ∧ Nw w w' := by
  obtain ⟨P, hP⟩ : ∃ P : Ending → World → Prop, P = fun e w' => e = .returned (.bool r) ∧ Nw w w' := ⟨_, rfl⟩
  rw [← hP]
  have HP : Hid (P = fun e w' => e = .returned (.bool r) ∧ Nw w w') := hP
  clear hP
  have HT : Hid (CanB l → ∀ V, Nw w V → P (.returned (.bool true)) V) := fun h V hV => by
    rw [HP.out]; rw [hr.2 h]; exact ⟨rfl, hV⟩
  have HF : Hid (¬ CanB l → ∀ V, Nw w V → P (.returned (.bool false)) V) := fun h V hV => by
    rw [HP.out]
    have : r = false := by cases r with
      | false => rfl
      | true => exact absurd (hr.1 rfl) h
    rw [this]; exact ⟨rfl, hV⟩
  obtain ⟨a, c, rfl, hc, hc2, hL⟩ := hl.form
  have HL : Hid (SqR X (.slice a l.length c) l w) := hl
  clear hl hr HP
  by_cases h0 : l = []
  · have HF' : Hid (P (.returned (.bool false)) w) := HF.out (fun h => h.1 h0) w (Fr.refl _ _)
    subst h0
    simp only [List.length_nil]
    clear HL HT HF
    go_enter Try.func33, Try.ntmps33
    go_wp2
    exact HF'.out
  have h1 : 0 < l.length := List.length_pos_iff.2 h0
  generalize hln : l.length = L at *
  have hln' : Hid (l.length = L) := hln
  clear hln
  have hz0 : ¬ (L : Int) = 0 := by omega
  have hzb : ((L : Int) == 0) = false := by simp; omega
  have hz1 : (L : Int) - 1 = ((L - 1 : Nat) : Int) := by omega
  generalize hL1 : L - 1 = L1 at *
  have hb1 : L1 ≤ c := by omega
  go_enter Try.func33, Try.ntmps33
  go_wp2
  go_loopg [15] L1 (fun kx i wr => ∃ (I : Nat), I ≤ L1 ∧ L1 - I ≤ kx ∧ i = .int .i64 I ∧ Hid (Nw w wr ∧ ∀ i (h : i < l.length), i < I → canI l[i]))
  case atStart => exact ⟨0, by omega, by omega, rfl, Fr.refl _ _, fun i h h2 => by omega⟩
  case round =>
    obtain ⟨I, hI, hkx, rfl, HI⟩ := hrel
    have hN := HI.out.1
    by_cases hlt : I < L1
    · have hlt' : I < l.length := by rw [hln'.out]; omega
      obtain ⟨g, o, pa, pc, _, rfl, x0, x1, x2, _, _⟩ := (HL.out.nw hN).at I hlt'
      generalize l[I].p.length = pn at *
      have HNo : Hid (¬ canI l[I] → ∀ V, Nw w V → P (.returned (.bool false)) V) := fun h V hV => HF.out (fun hc => h (hc.2.1 I (by rw [hln'.out]; omega))) V hV
      have HYes : Hid (canI l[I] → ∀ i (h : i < l.length), i < I + 1 → canI l[i]) := fun h i hi hi2 => by
        by_cases hii : i = I
        · subst hii; exact h
        · exact HI.out.2 i hi (by omega)
      have HCan : Hid (canI l[I] ↔ 1 ≤ l[I].b ∧ l[I].b ≤ 65535 ∧ 4 ≤ l[I].n) := Iff.rfl
      have hz : (I : Int) < (L1 : Int) := by omega
      clear HI HL HT HF
      generalize canI l[I] = CI at *
      generalize l[I].b = zb at *
      generalize l[I].n = zn at *
      have hA : Nw w (wr.alloc (.cells #[.slice pa pn pc, .int .i64 zb, .int .i64 zn] 36)) := hN.alloc _
      by_cases g1 : zb < 1
      · have HF' : Hid (P _ _) := HNo.out (fun h => by have := HCan.out.1 h; omega) _ hA
        clear HNo HYes HCan
        go_wp2
        exact HF'.out
      by_cases g2 : 65535 < zb
      · have HF' : Hid (P _ _) := HNo.out (fun h => by have := HCan.out.1 h; omega) _ hA
        clear HNo HYes HCan
        go_wp2
        exact HF'.out
      by_cases g3 : zn < 4
      · have HF' : Hid (P _ _) := HNo.out (fun h => by have := HCan.out.1 h; omega) _ hA
        clear HNo HYes HCan
        go_wp2
        exact HF'.out
      have HY : Hid (∀ i (h : i < l.length), i < I + 1 → canI l[i]) := HYes.out (HCan.out.2 (by omega))
      clear HNo HYes HCan
      go_wp2
      go_roundg (L1 - (I + 1))
      all_goals (first | omega | exact ⟨I + 1, by omega, by omega, by first | rfl | (congr 1), hA, HY.out⟩)
    · obtain rfl : I = L1 := by omega
      have hlt' : I < l.length := by rw [hln'.out]; omega
      obtain ⟨g, o, pa, pc, _, rfl, x0, x1, x2, _, _⟩ := (HL.out.nw hN).at I hlt'
      generalize l[I].p.length = pn at *
      have hA : Nw w (wr.alloc (.cells #[.slice pa pn pc, .int .i64 l[I].b, .int .i64 l[I].n] 36)) := hN.alloc _
      have HNo : Hid (¬ (l[I].b = 0 ∧ l[I].n = 0) → P (.returned (.bool false)) (wr.alloc (.cells #[.slice pa pn pc, .int .i64 l[I].b, .int .i64 l[I].n] 36))) := fun h => HF.out (fun hc => h (by
        have := hc.2.2 (by rw [hln'.out]; omega)
        have e : l.length - 1 = I := by rw [hln'.out]; exact hL1
        simp only [e] at this; exact this)) _ hA
      have HYes : Hid (l[I].b = 0 ∧ l[I].n = 0 → P (.returned (.bool true)) (wr.alloc (.cells #[.slice pa pn pc, .int .i64 l[I].b, .int .i64 l[I].n] 36))) := fun h => HT.out ⟨h0, fun i hi => HI.out.2 i (by omega) (by rw [hln'.out] at hi; omega), fun hh => by
        have e : l.length - 1 = I := by rw [hln'.out]; exact hL1
        simp only [e]; exact h⟩ _ hA
      have hz : ¬ (I : Int) < (I : Int) := by omega
      have hIL : I < L := by omega
      clear HI HL HT HF hlt
      generalize l[I].b = zb at *
      generalize l[I].n = zn at *
      by_cases g1 : zb = 0
      · by_cases g2 : zn = 0
        · have HF' : Hid (P _ _) := HYes.out ⟨g1, g2⟩
          subst g1 g2
          clear HNo HYes
          go_wp2
          exact HF'.out
        · have HF' : Hid (P _ _) := HNo.out (fun h => g2 h.2)
          have hzc : (zn == 0) = false := by simpa using g2
          subst g1
          clear HNo HYes
          go_wp2
          first | exact HF'.out | (rw [hzc]; exact HF'.out)
      · have HF' : Hid (P _ _) := HNo.out (fun h => g1 h.1)
        clear HNo HYes
        go_wp2
        exact HF'.out
end Go.Proofs.Ytpnacppmdlnjlaa
