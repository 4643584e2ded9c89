import Derived.Test.YtegabbfdnpjkkaaRanO
namespace Go.Proofs.Ytegabbfdnpjkkaa
open Go.RowKit
set_option linter.unusedVariables false

theorem step_append_run {ops : Array Oper} {o : Oper} {a : Act} {w : World} {K : Act → World → Prop} {Q : Exit → Act → World → Prop} {E : Prop}
    (hg : o.guard = none) (d x : Operand) (hop : o.op = Op.call { callee := Callee.builtin Builtin.append, args := #[d, x], argTypes := #[45, 45] })
    (v u : Value) (hd : a.eval d = v) (hx : a.eval x = u) {v' : Value} {w' : World} (hr : (Builtin.append_ #[45, 45] o.type #[v, u]).run Try.prog w = .ok v' w') (hK : K (a.put o.dst v') w') :
    if Region.wanted o (yielded ops a.tmps) = true then Oper.wp Try.prog o a w K Q else E := by
  have hw : Region.wanted o (yielded ops a.tmps) = true := by simp [Region.wanted, hg]
  rw [if_pos hw]
  exact Lib.wp_append_run w d x 45 45 hop v u hd hx v' w' hr hK

/-- What an append of one range to the slice at og leaves. -/
def Apped (og : Option Nat) (W W' : World) (v' : Value) (L : List Rg) : Prop := ∃ og', SVal v' og' L W' ∧ Fr (fun k => og = some k) W W' ∧ (og' = og ∨ ∃ g', og' = some g' ∧ W.heap.size ≤ g')
theorem app_step (W : World) (s : Value) (og : Option Nat) (V0 : List Rg) (y : Rg) (gb : Nat) (hs : SVal s og V0 W) (hb : RowB gb [y] W) (hd : og ≠ some gb) (hbig : (V0.length + 1) * 16 ≤ 140737488355328) :
    ∃ W' a c, (∀ ty, (Builtin.append_ #[45, 45] ty #[s, .slice (some ⟨gb, 0, none⟩) 1 1]).run Try.prog W = .ok (.slice a (V0.length + 1) c) W') ∧ Apped og W W' (.slice a (V0.length + 1) c) (V0 ++ [y]) := by
  have e1 : ([y] : List Rg).take 1 = [y] := rfl
  have hl : (V0 ++ [y]).length = V0.length + 1 := by simp
  rcases hs with ⟨rfl, rfl, rfl⟩ | ⟨g, xs, rfl, rfl, k1, k2, k3, k4⟩
  · refine ⟨W.drew.alloc (.cells (cellsL ([y] ++ List.replicate (grownCap W 1 0 49 - 1) (0, 0))).toArray 49), some ⟨W.heap.size, 0, none⟩, grownCap W 1 0 49, fun ty => ?_, some W.heap.size, .inr ⟨W.heap.size, [y] ++ List.replicate (grownCap W 1 0 49 - 1) (0, 0), rfl, ?_, ?_, ?_, ?_, RowB.new W.drew _⟩, (Fr.refl _ _).drew.alloc _, .inr ⟨_, rfl, Nat.le_refl _⟩⟩
    · have := app_new W ty gb 0 1 1 [y] hb (by omega) (by simp) (by omega)
      simp only [Nat.zero_mul, List.drop_zero, e1] at this
      exact this
    · have h1 := grownCap_ge W 1 0 49
      simp; omega
    · have h1 := grownCap_ge W 1 0 49
      have h2 := grownCap_le_maxLen W 1 0 49 (by simp [maxLen])
      simp; omega
    · simp
    · simp
  · by_cases hr : V0.length + 1 ≤ xs.length
    · refine ⟨W.setRow g (cellsL (spl xs V0.length [y])).toArray, some ⟨g, 0, none⟩, xs.length, fun ty => ?_, some g, .inr ⟨g, spl xs V0.length [y], rfl, ?_, ?_, ?_, ?_, k4.setRow _⟩, (Fr.refl _ _).setRow g _ (.inl rfl), .inl rfl⟩
      · have := app_room W ty g 0 V0.length xs.length gb 0 1 1 xs [y] k4 hb hr (by omega) (by simp)
        simp only [Nat.zero_mul, Nat.zero_add, List.drop_zero, e1] at this
        exact this
      · rw [spl_length _ _ _ (by simpa using hr), hl]
      · rw [spl_length _ _ _ (by simpa using hr)]; exact k1
      · rw [spl_length _ _ _ (by simpa using hr), hl]; exact hr
      · have := tail_list0 xs [y] V0.length (by simpa using hr)
        rw [hl]
        rw [k3] at this
        exact this
    · refine ⟨W.drew.alloc (.cells (cellsL (V0 ++ [y] ++ List.replicate (grownCap W (V0.length + 1) xs.length 49 - (V0.length + 1)) (0, 0))).toArray 49), some ⟨W.heap.size, 0, none⟩, grownCap W (V0.length + 1) xs.length 49, fun ty => ?_, some W.heap.size, .inr ⟨W.heap.size, V0 ++ [y] ++ List.replicate (grownCap W (V0.length + 1) xs.length 49 - (V0.length + 1)) (0, 0), rfl, ?_, ?_, ?_, ?_, RowB.new W.drew _⟩, (Fr.refl _ _).drew.alloc _, .inr ⟨_, rfl, Nat.le_refl _⟩⟩
      · have := app_grow W ty g 0 V0.length xs.length gb 0 1 1 xs [y] k4 hb (by omega) (by omega) (by simp) hbig
        simp only [Nat.zero_mul, List.drop_zero, e1, k3] at this
        exact this
      · have h1 := grownCap_ge W (V0.length + 1) xs.length 49
        simp; omega
      · have h1 := grownCap_ge W (V0.length + 1) xs.length 49
        have h2 := grownCap_le_maxLen W (V0.length + 1) xs.length 49 (by unfold maxLen; omega)
        simp; omega
      · simp
      · rw [hl, List.take_append_of_le_length (by simp), List.take_of_length_le (by simp)]

set_option maxHeartbeats 2000000 in
set_option maxRecDepth 100000 in
theorem cut_bad (br : Nat) (x : Rg) (w : World) (hx : cb x = false) :
    Calls Try.prog 22 #[.pointer (some ⟨br, 0, none⟩), rv x] w fun e w' => e = .returned (.int .i64 12) ∧ Nw w w' := by
  have HN0 : Hid (Nw w (w.alloc (.cells #[.int .i64 x.1, .int .i64 x.2] 49))) := (Fr.refl _ _).alloc _
  have HC := fun w => canBe_any x w
  rw [hx] at HC
  clear hx
  go_enter Try.func22, Try.ntmps22
  go_wp2_with (go_at_call 37; refine (HC _).mono ?_; rintro e w' ⟨rfl, hN⟩)
  go_ret
  exact ⟨rfl, Nw.trans HN0.out hN⟩

set_option maxHeartbeats 2000000 in
set_option maxRecDepth 100000 in
theorem cut_empty (br : Nat) (x : Rg) (w : World) (hx : cb x = true) (he : x.1 = x.2) :
    Calls Try.prog 22 #[.pointer (some ⟨br, 0, none⟩), rv x] w fun e w' => e = .returned (.int .i64 0) ∧ Nw w w' := by
  have HN0 : Hid (Nw w (w.alloc (.cells #[.int .i64 x.1, .int .i64 x.2] 49))) := (Fr.refl _ _).alloc _
  have HC := fun w => canBe_any x w
  rw [hx] at HC
  have hb := BoxB.new w x
  obtain ⟨a, b⟩ := x
  simp only at he
  subst he
  have HB : Hid _ := hb
  clear hx hb
  go_enter Try.func22, Try.ntmps22
  go_wp2_with (go_at_call 37; refine (HC _).mono ?_; rintro e w' ⟨rfl, hN⟩; obtain ⟨q0, q1, _⟩ := (BoxB.nw HB.out hN).cell)
  go_ret
  exact ⟨rfl, Nw.trans HN0.out hN⟩

def cutV (L : List Rg) (i j : Nat) (x : Rg) : List Rg := if h : i < j ∧ j ≤ L.length then
  (if (L[i]'(by omega)).1 < x.1 then [((L[i]'(by omega)).1, x.1)] else []) ++ (if x.2 < (L[j - 1]'(by omega)).2 then [(x.2, (L[j - 1]'(by omega)).2)] else []) else []
theorem cutV_len (L : List Rg) (i j : Nat) (x : Rg) : (cutV L i j x).length ≤ 2 := by
  unfold cutV; split
  · split <;> split <;> simp
  · simp

theorem cut_end (br : Nat) (og ov : Option Nat) (L V : List Rg) (v : Value) (i j : Nat) (w W4 : World) (h : RngB br og L w) (hN4 : Nw w W4) (hv : SVal v ov V W4) (hV0 : V = [] → v = .slice none 0 0) (hgb : ∀ g, ov = some g → w.heap.size ≤ g) (hL : L.length ≤ 65536) (hij : i ≤ j) (hj : j ≤ L.length) (hV : V.length ≤ 2) :
    Calls Try.prog 41 #[.pointer (some ⟨br, 0, none⟩), .int .i64 i, .int .i64 j, v] W4 fun e w' =>
      (65536 < L.length - (j - i) + V.length ∧ e = .returned (.int .i64 2) ∧ Nw w w' ∨ L.length - (j - i) + V.length ≤ 65536 ∧ e = .returned (.int .i64 0) ∧ Setted br og w w' (L.take i ++ V ++ L.drop j)) := by
  have h4 := RngB.nw h hN4
  by_cases hc : 65536 < L.length - (j - i) + V.length
  · refine (replace_no br og _ L V i j _ _ h4 hv hij hj hL hV hc).mono ?_
    rintro e w' ⟨rfl, rfl⟩
    exact .inl ⟨hc, rfl, hN4⟩
  · refine (replace_yes br og _ L V i j _ _ h4 hv hV0 (fun g hg e => ?_) hij hj hL hV (by omega)).mono ?_
    · obtain ⟨u, _, k2, _⟩ := h
      have := k2.lt g hg
      have := hgb g e
      omega
    · rintro e w' ⟨rfl, hs⟩
      exact .inr ⟨by omega, rfl, hs.lift hN4 h⟩
end Go.Proofs.Ytegabbfdnpjkkaa
