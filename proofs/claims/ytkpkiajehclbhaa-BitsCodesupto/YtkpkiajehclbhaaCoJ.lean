import Derived.Test.YtkpkiajehclbhaaCoI
namespace Go.Proofs.Ytkpkiajehclbhaa
open Go.RowKit
set_option linter.unusedVariables false
theorem build_code (f : Nat → Nat → Nat) (g1 g2 L M : Nat) (w : World) : (Instr.build 94 #[(0, .slice (some ⟨g1, 0, none⟩) L L), (1, .slice (some ⟨g2, 0, none⟩) M M), (2, .agg (rowC f))]).run Try.prog w = .ok (.agg (codeC (.slice (some ⟨g1, 0, none⟩) L L) (.slice (some ⟨g2, 0, none⟩) M M) f)) w := by
  kernel_rfl
theorem size94 : (Try.prog.info? 94).map (·.size) = some 50 := by kernel_rfl
theorem toI_of (zs : List Int) (h : ∀ z ∈ zs, 0 ≤ z ∧ z ≤ 15) : ∃ ls : List Nat, zs = toI ls ∧ (∀ i, ls.getD i 0 ≤ 15) ∧ ∀ x ∈ ls, x ≤ 15 := by
  refine ⟨zs.map Int.toNat, ?_, ?_, ?_⟩
  · rw [toI, List.map_map]
    conv => lhs; rw [← List.map_id zs]
    apply List.map_congr_left
    intro z hz
    have := h z hz
    simp only [id, Function.comp]
    omega
  · intro i
    rw [List.getD_eq_getElem?_getD, List.getElem?_map]
    cases he : zs[i]? with
    | none => simp
    | some z =>
      have := h z (List.mem_of_getElem? he)
      simp
      omega
  · intro x hx
    obtain ⟨z, hz, rfl⟩ := List.mem_map.1 hx
    have := h z hz
    omega
theorem toI_inj (a b : List Nat) (h : toI a = toI b) : a = b := by
  apply List.ext_getElem?
  intro i
  have : (toI a)[i]? = (toI b)[i]? := by rw [h]
  simp only [toI, List.getElem?_map] at this
  cases ha : a[i]? with
  | none =>
    cases hb : b[i]? with
    | none => rfl
    | some y => rw [ha, hb] at this; simp at this
  | some x =>
    cases hb : b[i]? with
    | none => rw [ha, hb] at this; simp at this
    | some y => rw [ha, hb] at this; simp at this; rw [show x = y by omega]
theorem load_row_g {ops : Array Oper} {rest : List Oper} {o : Oper} {a : Act} {w : World} {Q : Exit → Act → World → Prop} (hw : Region.wanted o (yielded ops a.tmps) = true) (x : Operand) (ho : o.op = .load 90 x)
    (g : Nat) (hx : a.eval x = .pointer (some ⟨g, 0, none⟩)) (cs : Array Value) (hg : w.heap[g]? = some (.cells cs 90)) (hi : cs.size = 48)
    (h : wpList Try.prog ops Q rest (a.put o.dst (.agg cs)) w) : wpList Try.prog ops Q (o :: rest) a w := by
  unfold wpList
  rw [if_pos hw]
  exact .inl (wp_load_row 90 x ho g hx 90 cs (0, 0) _ hg Try.underlying90 rfl (by rw [size90, hi]) h)
/-- The lengths are a code. -/
def IsCode (zs : List Int) : Prop := ∃ ls, zs = toI ls ∧ Cod ls
set_option maxHeartbeats 8000000 in
set_option maxRecDepth 100000 in
theorem newCode_no (w : World) (v : Value) (zs : List Int) (h : SlR RI (fun k => w.heap.size ≤ k) v zs w) (hl : zs.length ≤ 17592186043904) (hn : ¬ IsCode zs) : Calls Try.prog 32 #[v] w fun e w' => e = .returned (.tuple #[.pointer none, .int .i64 51]) ∧ Nw w w' := by
  obtain ⟨P, hP⟩ : ∃ P : Ending → World → Prop, P = fun e w' => e = .returned (.tuple #[.pointer none, .int .i64 51]) ∧ Nw w w' := ⟨_, rfl⟩
  rw [← hP]
  have HF : Hid (∀ W, Nw w W → P (.returned (.tuple #[.pointer none, .int .i64 51])) W) := fun W hW => by rw [hP]; exact ⟨rfl, hW⟩
  have hcb := canBe_any w v zs (h.mono (fun _ h => h.elim)) hl
  by_cases hk : okL zs
  · obtain ⟨ls, rfl, h15, hm15⟩ := toI_of zs hk.1
    have hlen : ls.length ≤ 320 := by have := hk.2; rw [toI_length] at this; exact this
    have hroom : room ls = 0 ∨ 32768 < room ls := by
      rcases Nat.eq_zero_or_pos (room ls) with e | e
      · exact .inl e
      · rcases Nat.lt_or_ge 32768 (room ls) with e2 | e2
        · exact .inr e2
        · exact absurd ⟨ls, rfl, h15, hlen, e, e2⟩ hn
    have hnb := nm_bound ls hlen 15
    have hct : ct ls 15 ≤ 320 := by rw [ct_pos _ _ (by decide)]; exact Nat.le_trans (List.count_le_length) hlen
    have hrb : room ls ≤ 100000000 := by
      unfold room
      have : (2 : Nat) ^ 15 = 32768 := by decide
      omega
    have HC1 : Hid (Calls Try.prog 46 #[v] w fun e w' => e = .returned (.bool true) ∧ w' = w) := hcb.mono (fun e w' ⟨⟨b, he, hb⟩, hw⟩ => ⟨by rw [he, hb.2 hk], hw⟩)
    have HC2 : Hid (Calls Try.prog 47 #[v] w fun e w' => e = .returned (.agg (rowC (fr ls))) ∧ Hid (Nw w w')) := rowsOf_any w v ls h hlen h15
    have HC3 : Hid (∀ V, Calls Try.prog 48 #[.agg (rowC (fr ls))] V fun e w' => e = .returned (.int .i64 (room ls)) ∧ Hid (Nw V w')) := fun V => room_any V (fr ls) (by show room ls ≤ _; omega)
    have hsz := rowC_size (fr ls)
    have hone := rowC_one (fr ls)
    obtain ⟨a, c, rfl, hca, hc2, hcc⟩ := h.form
    clear hP hcb hn h hnb hct
    generalize rowC (fr ls) = A at *
    generalize room ls = R at *
    go_enter Try.func32, Try.ntmps32
    go_upto_region 4 with (first | (go_at_call 46; (with_reducible refine HC1.out.mono ?_); rintro e w1 ⟨rfl, rfl⟩) | (go_at_call 47; (with_reducible refine HC2.out.mono ?_); rintro e w2 ⟨rfl, H2⟩) | (refine wpList_store_row rfl 90 _ _ rfl w2.heap.size A (by first | rfl | simp [Act.eval]) (by first | rfl | simp [Act.eval]) 90 _ (new_heap w2 _) (by rw [size90, hsz]) (by rw [hsz]; rfl) hone ?_))
    rw [← rowC_zero]
    have hr : ((w2.alloc (.cells (rowC fun _ _ => 0) 90)).setRow w2.heap.size A).heap[w2.heap.size]? = some (.cells A 90) := setRow_heap _ _ _ _ 90 _ (new_heap w2 _)
    have HN3 : Hid (Nw _ ((w2.alloc (.cells (rowC fun _ _ => 0) 90)).setRow w2.heap.size A)) := (H2.out.trans ((Fr.refl _ _).alloc _)).setRow _ _ (.inr H2.out.size)
    generalize (w2.alloc (.cells (rowC fun _ _ => 0) 90)).setRow w2.heap.size A = W3 at *
    obtain ⟨rr, hrr⟩ : ∃ r, r = w2.heap.size := ⟨_, rfl⟩
    rw [← hrr] at hr
    rw [← hrr]
    clear hrr HC1 HC2 H2
    rcases hroom with hR0 | hR1
    · subst hR0
      go_wp2_with (first | (refine wpList_load_row rfl 90 _ rfl rr (by first | rfl | simp [Act.eval]) 90 A (0, 0) _ hr Try.underlying90 rfl (by rw [size90, hsz]) ?_) | (go_at_call 48; (with_reducible refine (HC3.out _).mono ?_); rintro e w4 ⟨rfl, H4⟩))
      exact HF.out _ (HN3.out.trans H4.out)
    · have hz1 : ((R : Int) == 0) = false := by simp; omega
      have hz2 : (32768 : Int) < (R : Int) := by omega
      go_wp2_with (first | (refine wpList_load_row rfl 90 _ rfl rr (by first | rfl | simp [Act.eval]) 90 A (0, 0) _ hr Try.underlying90 rfl (by rw [size90, hsz]) ?_) | (go_at_call 48; (with_reducible refine (HC3.out W3).mono ?_); rintro e w4 ⟨rfl, H4⟩; have hr4 := H4.out.heap hr) | (refine load_row_g (by first | rfl | simp) _ rfl rr (by first | rfl | simp [Act.eval]) A hr4 hsz ?_) | (go_at_call 48; (with_reducible refine (HC3.out _).mono ?_); rintro e w5 ⟨rfl, H5⟩))
      exact HF.out _ ((HN3.out.trans H4.out).trans H5.out)
  · have HC1 : Hid (Calls Try.prog 46 #[v] w fun e w' => e = .returned (.bool false) ∧ w' = w) := hcb.mono (fun e w' ⟨⟨b, he, hb⟩, hw⟩ => ⟨by rw [he]; cases b with | false => rfl | true => exact absurd (hb.1 rfl) hk, hw⟩)
    obtain ⟨a, c, rfl, hca, hc2, hcc⟩ := h.form
    have HF2 : Hid (P (.returned (.tuple #[.pointer none, .int .i64 51])) w) := HF.out _ (Fr.refl _ _)
    clear hP hcb hn h
    generalize zs.length = Z at *
    go_enter Try.func32, Try.ntmps32
    go_wp2_with (first | (go_at_call 46; (with_reducible refine HC1.out.mono ?_); rintro e w1 ⟨rfl, rfl⟩))
    exact HF2.out
end Go.Proofs.Ytkpkiajehclbhaa
