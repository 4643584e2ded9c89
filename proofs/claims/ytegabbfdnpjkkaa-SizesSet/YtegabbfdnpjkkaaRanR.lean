import Derived.Test.YtegabbfdnpjkkaaRanP
namespace Go.Proofs.Ytegabbfdnpjkkaa
open Go.RowKit
set_option linter.unusedVariables false
set_option linter.unusedSimpArgs false

/-- A slice in new memory: nil, or a row that was not there. -/
def NewS (w w' : World) (v : Value) (L : List Rg) : Prop := ∃ og, SVal v og L w' ∧ (∀ g, og = some g → w.heap.size ≤ g) ∧ Nw w w'

theorem all_val (w : World) (v : Value) (og : Option Nat) (L : List Rg) (h : SVal v og L w) (hL : L.length ≤ 65536) :
    ∃ W a c, (∀ ty, (Builtin.append_ #[45, 45] ty #[.slice none 0 0, v]).run Try.prog w = .ok (.slice a L.length c) W) ∧ NewS w W (.slice a L.length c) L := by
  rcases h with ⟨rfl, rfl, rfl⟩ | ⟨g, xs, rfl, rfl, k1, k2, k3, k4⟩
  · exact ⟨w, none, 0, fun ty => app_none w ty none 0 0 (Nat.le_refl _), none, .inl ⟨rfl, rfl, rfl⟩, (fun g h => by cases h), Fr.refl _ _⟩
  · by_cases h0 : L = []
    · subst h0
      refine ⟨w, none, 0, fun ty => ?_, none, .inl ⟨rfl, rfl, rfl⟩, (fun g h => by cases h), Fr.refl _ _⟩
      obtain ⟨i, hi, hz, hs, hb⟩ := info49
      have hl := load_pairs w g 0 0 xs k4 (by omega)
      simp only [Nat.zero_mul, List.take_zero, cellsL] at hl
      simp [Builtin.append_, run_underlying Try.underlying45, sizeOf, typeInfo, hi, hs, Builtin.lenOf, Builtin.firstCells, hl]
    · have hp : 0 < L.length := by cases L with | nil => exact absurd rfl h0 | cons a r => simp
      refine ⟨w.drew.alloc (.cells (cellsL (L ++ List.replicate (grownCap w L.length 0 49 - L.length) (0, 0))).toArray 49), some ⟨w.heap.size, 0, none⟩, grownCap w L.length 0 49, fun ty => ?_, some w.heap.size, .inr ⟨w.heap.size, L ++ List.replicate (grownCap w L.length 0 49 - L.length) (0, 0), rfl, ?_, ?_, ?_, ?_, RowB.new w.drew _⟩, (fun g h => by injection h with h; omega), (Fr.refl _ _).drew.alloc _⟩
      · have := app_new w ty g 0 L.length xs.length xs k4 hp (by omega) (by omega)
        simp only [Nat.zero_mul, List.drop_zero, k3] at this
        exact this
      · have h1 := grownCap_ge w L.length 0 49
        simp; omega
      · have h1 := grownCap_ge w L.length 0 49
        have h2 := grownCap_le_maxLen w L.length 0 49 (by unfold maxLen; omega)
        simp; omega
      · simp
      · rw [List.take_append_of_le_length (Nat.le_refl _), List.take_length]

set_option maxHeartbeats 2000000 in
set_option maxRecDepth 100000 in
theorem all_any (br : Nat) (og : Option Nat) (L : List Rg) (w : World) (h : RngB br og L w) (hL : L.length ≤ 65536) :
    Calls Try.prog 26 #[.pointer (some ⟨br, 0, none⟩)] w fun e w' => ∃ a c, e = .returned (.slice a L.length c) ∧ NewS w w' (.slice a L.length c) L := by
  obtain ⟨v, h1, h2, h3⟩ := h
  obtain ⟨c0, _⟩ := box_cell h1
  obtain ⟨W, a, c, hap, hn⟩ := all_val w v og L h2 hL
  obtain ⟨va, vc, rfl, _, _⟩ := h2.form
  have HN : Hid _ := hn
  clear hn h2 h1
  go_enter Try.func26, Try.ntmps26
  go_wp2_with (at_builtin; refine Lib.wpList_append_run _ rfl _ _ _ _ rfl _ _ rfl rfl _ _ (hap _) ?_)
  go_ret
  exact ⟨a, c, rfl, HN.out⟩

/-! ### Total -/
def tot : List Rg → Int
  | [] => 0
  | p :: r => (p.2 - p.1) + tot r
theorem tot_append (A B : List Rg) : tot (A ++ B) = tot A + tot B := by
  induction A with
  | nil => simp [tot]
  | cons p r ih => simp only [List.cons_append, tot, ih]; omega
theorem tot_take (L : List Rg) (k : Nat) (hk : k < L.length) : tot (L.take (k + 1)) = tot (L.take k) + (L[k].2 - L[k].1) := by
  rw [List.take_succ_eq_append_getElem hk, tot_append]; simp [tot]
/-- Every begun sum fits. -/
def Fits (L : List Rg) : Prop := (∀ k, k ≤ L.length → 0 ≤ tot (L.take k) ∧ tot (L.take k) ≤ 9223372036854775807) ∧ ∀ t (h : t < L.length), 0 ≤ L[t].1 ∧ L[t].1 ≤ L[t].2 ∧ L[t].2 ≤ 9223372036854775807

set_option maxHeartbeats 4000000 in
set_option maxRecDepth 100000 in
theorem total_any (br : Nat) (og : Option Nat) (L : List Rg) (w : World) (h : RngB br og L w) (hL : L.length ≤ 65536) (hf : Fits L) :
    Calls Try.prog 30 #[.pointer (some ⟨br, 0, none⟩)] w fun e w' => e = .returned (.int .i64 (tot L)) ∧ Nw w w' := by
  obtain ⟨v, h1, h2, h3⟩ := h
  obtain ⟨c0, _⟩ := box_cell h1
  obtain ⟨va, vc, rfl, _, hvc⟩ := h2.form
  have H2 : Hid _ := h2
  have HF : Hid _ := hf
  unfold maxLen at hvc
  clear h2 h1 hf
  go_enter Try.func30, Try.ntmps30
  go_wp2
  go_loopw [3, 11] (fun t i wr => ∃ k : Nat, k ≤ L.length ∧ i = .int .i64 k ∧ t = .int .i64 (tot (L.take k)) ∧ Nw w wr) (fun _ i _ => L.length - (intOf i).toNat)
  case atStart => exact ⟨0, Nat.zero_le _, rfl, rfl, Fr.refl _ _⟩
  case round =>
    obtain ⟨k, hk, rfl, rfl, hN⟩ := hrel
    by_cases hlt : k < L.length
    · rcases H2.out with ⟨_, _, rfl⟩ | ⟨g, xs, _, hv, k1, k2, k3, k4⟩
      · simp at hlt
      injection hv with hv1 _ hv2
      subst hv1 hv2
      obtain ⟨d1, d2⟩ := (hN.row k4).cell k (by omega)
      have e1 : xs[k]'(by omega) = L[k] := by
        have : (xs.take L.length)[k]? = L[k]? := by rw [k3]
        rw [List.getElem?_take, if_pos hlt, List.getElem?_eq_getElem (by omega), List.getElem?_eq_getElem hlt] at this
        exact Option.some.inj this
      rw [e1] at d1 d2
      obtain ⟨t1, t2⟩ := HF.out.1 k hk
      obtain ⟨t3, t4⟩ := HF.out.1 (k + 1) hlt
      obtain ⟨y1, y2, y3⟩ := HF.out.2 k hlt
      have HT : Hid _ := tot_take L k hlt
      rw [tot_take L k hlt] at t3 t4
      generalize L[k] = y at d1 d2 y1 y2 y3 t3 t4 HT
      generalize tot (L.take k) = T at t1 t2 t3 t4 HT ⊢
      have hkz : (k : Int) < (L.length : Int) := by omega
      clear e1 k3 k4
      go_wp2
      go_roundw
      case rel => exact ⟨k + 1, hlt, by go_num, by rw [HT.out], by first | exact Fr.alloc hN _ | exact Fr.setCell (Fr.alloc hN _) _ _ (.inr hN.size) | exact Fr.setCell (Fr.setCell (Fr.alloc hN _) _ _ (.inr hN.size)) _ _ (.inr hN.size)⟩
      case measure => simp [intOf]; omega
    · obtain rfl : k = L.length := by omega
      rw [List.take_length]
      go_wp2
      go_ret
      exact ⟨rfl, hN⟩
end Go.Proofs.Ytegabbfdnpjkkaa
