import Derived.Test.YtfmghmidklpdaabGnA
import Derived.Test.YtfmghmidklpdaabPtB
import Derived.Laws.Strings
namespace Go.Proofs.Ytfmghmidklpdaab
open Go.RowKit
set_option linter.unusedVariables false
/-! ### Lists of texts in memory -/
def mk (l : Tx) : ByteArray := ⟨l.toArray⟩
theorem mk_toList (l : Tx) : (mk l).toList = l := by rw [ByteArray.toList_eq]; rfl
theorem mk_data (l : Tx) : (mk l).data.toList = l := rfl
theorem mk_size (l : Tx) : (mk l).size = l.length := by
  show (mk l).data.size = _
  simp [mk]
theorem mk_inj {l m : Tx} : mk l = mk m ↔ l = m := by
  constructor
  · intro h
    have := congrArg (fun s => s.data.toList) h
    exact this
  · rintro rfl; rfl
theorem mk_of (s : ByteArray) : ∃ l, s = mk l := ⟨s.data.toList, by cases s; rfl⟩
theorem mk_eq (l m : Tx) : ((mk l).toList == (mk m).toList) = decide (l = m) := by
  rw [mk_toList, mk_toList]
  by_cases h : l = m
  · subst h; simp
  · rw [decide_eq_false h, beq_eq_false_iff_ne]; exact h
def RS : RT Tx := { enc := fun x => [.string (mk x)], k := 1, T := 9, TS := 22, z := [], by_ := 16 }
theorem rsOk : RS.Ok := by
  refine ⟨fun _ => rfl, by decide, fun x v hv => ?_, Try.underlying22, ?_⟩
  · simp only [RS, List.mem_cons, List.mem_nil_iff, or_false] at hv
    subst hv; rfl
  · have h : (Try.prog.info? 9).map (fun i => (i.zero, i.size, i.bytes)) = some (some (.string (mk [])), 1, 16) := by kernel_rfl
    cases hq : Try.prog.info? 9 with
    | none => simp [hq] at h
    | some i => simp [hq] at h; exact ⟨i, _, hq, h.1, h.2.1, h.2.2, rfl⟩
theorem rs_at {X : Nat → Prop} {a : Option Addr} {n c : Nat} {l : List Tx} {w : World} (h : SlR RS X (.slice a n c) l w) (i : Nat) (hx : i < l.length) : ∃ g o, a = some ⟨g, o, none⟩ ∧ ¬ X g ∧ w.cell? ⟨g, o + i, none⟩ = some (.string (mk l[i])) := by
  obtain ⟨g, o, e, hg, hc⟩ := h.at i l[i] (List.getElem?_eq_getElem hx)
  have := hc 0 _ rfl
  simp only [RS, Nat.mul_one, Nat.add_zero] at this
  exact ⟨g, o, e, hg, this⟩
theorem eqT_upto (l m : List Tx) (k : Nat) (h : l.length = m.length) (hk : k ≤ l.length) (he : ∀ j, j < k → l[j]? = m[j]?) (hd : k = l.length) : l = m := by
  apply List.ext_getElem?
  intro i
  by_cases hi : i < k
  · exact he i hi
  · rw [List.getElem?_eq_none (by omega), List.getElem?_eq_none (by omega)]
set_option maxHeartbeats 8000000 in
set_option maxRecDepth 100000 in
theorem usame_any (w : World) (va vb : Value) (l m : List Tx) (hl : SlR RS (fun _ => False) va l w) (hm : SlR RS (fun _ => False) vb m w) :
    Calls Try.prog 8 #[va, vb] w fun e w' => e = .returned (.bool (decide (l = m))) ∧ Nw w w' := by
  obtain ⟨P, hP⟩ : ∃ P : Ending → World → Prop, P = fun e w' => e = .returned (.bool (decide (l = m))) ∧ Nw w w' := ⟨_, rfl⟩
  rw [← hP]
  have HP : Hid (P = fun e w' => e = .returned (.bool (decide (l = m))) ∧ Nw w w') := hP
  clear hP
  obtain ⟨a1, c1, rfl, k1, k2, _⟩ := hl.form
  obtain ⟨a2, c2, rfl, k3, k4, _⟩ := hm.form
  have HI1 : Hid (SlR RS (fun _ => False) (.slice a1 l.length c1) l w) := hl
  have HI2 : Hid (SlR RS (fun _ => False) (.slice a2 m.length c2) m w) := hm
  clear hl hm
  by_cases hne : l.length = m.length
  · have HS : Hid (∀ k, k ≤ l.length → (∀ j, j < k → l[j]? = m[j]?) → k = l.length → l = m) := fun k hk he hd => eqT_upto l m k hne hk he hd
    rw [← hne] at k3 ⊢
    go_enter Try.func8, Try.ntmps8
    go_wp2
    go_loopg [5] l.length (fun kx i wr => ∃ (I : Nat), I ≤ l.length ∧ l.length - I ≤ kx ∧ i = .int .i64 I ∧ Hid (Nw w wr ∧ ∀ j, j < I → l[j]? = m[j]?))
    case atStart => exact ⟨0, by omega, by omega, rfl, Fr.refl _ _, fun j hj => by omega⟩
    case round =>
      obtain ⟨I, hI, hkx, rfl, HI⟩ := hrel
      obtain ⟨hN, hE⟩ := HI.out
      by_cases hlt : I < l.length
      · have hlt2 : I < m.length := by omega
        obtain ⟨g1, o1, rfl, _, hcell1⟩ := rs_at (HI1.out.nw hN) I hlt
        obtain ⟨g2, o2, rfl, _, hcell2⟩ := rs_at (HI2.out.nw hN) I hlt2
        have hbq := mk_eq l[I] m[I]
        by_cases heq : l[I] = m[I]
        · rw [decide_eq_true heq] at hbq
          have HN : Hid (∀ V, Nw wr V → Nw w V ∧ ∀ j, j < I + 1 → l[j]? = m[j]?) := fun V hV => ⟨hN.trans hV, fun j hj => by
            by_cases hj' : j < I
            · exact hE j hj'
            · obtain rfl : j = I := by omega
              rw [List.getElem?_eq_getElem hlt, List.getElem?_eq_getElem hlt2, heq]⟩
          clear HI HP HS hN hE HI1 HI2 heq hne
          generalize mk l[I] = x at *
          generalize mk m[I] = y at *
          go_wp2_with fail
          go_quiet (fail)
          go_wp2_with fail
          go_roundg (l.length - (I + 1))
          case measure => omega
          case rel => exact ⟨I + 1, by omega, by omega, by first | rfl | (congr 1), HN.out _ ((Fr.refl _ _).drewN _)⟩
        · rw [decide_eq_false heq] at hbq
          have HF : Hid (∀ V, Nw wr V → P (.returned (.bool false)) V) := fun V hV => by
            rw [HP.out]
            refine ⟨?_, hN.trans hV⟩
            rw [decide_eq_false (fun h => heq (by subst h; rfl))]
          clear HI HP HS hN hE HI1 HI2 heq hne
          generalize mk l[I] = x at *
          generalize mk m[I] = y at *
          go_wp2_with fail
          go_quiet (fail)
          go_wp2_with fail
          exact HF.out _ ((Fr.refl _ _).drewN _)
      · have HF : Hid (P (.returned (.bool true)) wr) := by
          show P _ _
          rw [HP.out]
          exact ⟨by rw [decide_eq_true (HS.out I hI hE (by omega))], hN⟩
        clear HI HP HS hN hE HI1 HI2 hne
        go_wp2_with fail
        exact HF.out
  · have HF : Hid (P (.returned (.bool false)) w) := by
      show P _ _
      rw [HP.out]
      exact ⟨by rw [decide_eq_false (fun h => hne (by rw [h]))], Fr.refl _ _⟩
    have hne' : ¬ (l.length : Int) = (m.length : Int) := by omega
    clear HP HI1 HI2
    generalize l.length = n1 at *
    generalize m.length = n2 at *
    go_enter Try.func8, Try.ntmps8
    go_wp2_with fail
    exact HF.out
end Go.Proofs.Ytfmghmidklpdaab
