import Derived.Test.YtkpkiajehclbhaaVao
namespace Go.Proofs.Ytkpkiajehclbhaa
open Go.RowKit
set_option linter.unusedVariables false
/-- As the numbers of the program. -/
def toI (ls : List Nat) : List Int := ls.map (fun (n : Nat) => (n : Int))
theorem toI_length (ls : List Nat) : (toI ls).length = ls.length := by simp [toI]
theorem toI_at (ls : List Nat) (I : Nat) (hI : I < ls.length) : (toI ls)[I]? = some ((ls.getD I 0 : Nat) : Int) := by
  rw [toI, List.getElem?_map, List.getElem?_eq_getElem hI, List.getD_eq_getElem?_getD, List.getElem?_eq_getElem hI]; rfl
theorem rw_start (w : World) (ls : List Nat) : RwI w (w.heap.size + 1) w.heap.size (fa ls 0) ((w.alloc (.cells (rowC fun _ _ => 0) 90)).alloc (.cells (rowC fun _ _ => 0) 90)) := by
  have h1 : Nw w (w.alloc (.cells (rowC fun _ _ => 0) 90)) := (Fr.refl _ _).alloc _
  have h2 : Nw (w.alloc (.cells (rowC fun _ _ => 0) 90)) ((w.alloc (.cells (rowC fun _ _ => 0) 90)).alloc (.cells (rowC fun _ _ => 0) 90)) := (Fr.refl _ _).alloc _
  have e : (w.alloc (.cells (rowC fun _ _ => 0) 90)).heap.size = w.heap.size + 1 := by simp
  have r1 := h2.heap (new_heap w (.cells (rowC fun _ _ => 0) 90))
  have r2 := new_heap (w.alloc (.cells (rowC fun _ _ => 0) 90)) (.cells (rowC fun _ _ => 0) 90)
  rw [e] at r2
  refine ⟨?_, r1, by omega, by omega, Nat.le_refl _, h1.trans h2⟩
  exact r2
theorem fb_last (ls : List Nat) (n j : Nat) (hn : n < 16) : fb ls 16 n j = fr ls n j := by
  unfold fb fr
  rw [if_pos hn]
theorem size90 : (Try.prog.info? 90).map (·.size) = some 48 := by kernel_rfl
set_option maxHeartbeats 16000000 in
set_option maxRecDepth 100000 in
theorem rowsOf_any (w : World) (v : Value) (ls : List Nat) (h : SlR RI (fun k => w.heap.size ≤ k) v (toI ls) w) (hl : ls.length ≤ 320) (he : ∀ i, ls.getD i 0 ≤ 15) : Calls Try.prog 47 #[v] w fun e w' => e = .returned (.agg (rowC (fr ls))) ∧ Nw w w' := by
  obtain ⟨P, hP⟩ : ∃ P : Ending → World → Prop, P = fun e w' => e = .returned (.agg (rowC (fr ls))) ∧ Nw w w' := ⟨_, rfl⟩
  rw [← hP]
  have HS : Hid (SlR RI (fun k => w.heap.size ≤ k) v (toI ls) w) := h
  obtain ⟨a, c, rfl, hc, hc2, hca⟩ := h.form
  rw [toI_length] at hc ⊢
  have HP : Hid (P = fun e w' => e = .returned (.agg (rowC (fr ls))) ∧ Nw w w') := hP
  have HI0 : Hid (RwI w (w.heap.size + 1) w.heap.size (fa ls 0) ((w.alloc (.cells (rowC fun _ _ => 0) 90)).alloc (.cells (rowC fun _ _ => 0) 90))) := rw_start w ls
  have HE : Hid (∀ i, ls.getD i 0 ≤ 15) := he
  clear hP h he
  have hgd : Hid (∀ I, I < ls.length → (toI ls)[I]? = some ((ls.getD I 0 : Nat) : Int)) := fun I hI => toI_at ls I hI
  generalize hL : ls.length = L at *
  have hL' : Hid (ls.length = L) := hL
  clear hL
  go_enter Try.func47, Try.ntmps47
  go_upto_region 2 with fail
  rw [← rowC_zero]
  obtain ⟨rr, hrr⟩ : ∃ r, r = w.heap.size + 1 := ⟨_, rfl⟩
  obtain ⟨r0, hr0⟩ : ∃ r, r = w.heap.size := ⟨_, rfl⟩
  have HB : Hid (∀ g, ¬ w.heap.size ≤ g → g ≠ rr ∧ g ≠ r0) := fun g hg => by omega
  generalize (w.alloc (.cells (rowC fun _ _ => 0) 90)).alloc (.cells (rowC fun _ _ => 0) 90) = w0 at *
  rw [← hrr, ← hr0] at HI0
  rw [← hrr, ← hr0]
  clear hrr hr0
  go_wp2_with fail
  go_loopg [10] L (fun kx i wr => ∃ (I : Nat), I ≤ L ∧ L - I ≤ kx ∧ i = .int .i64 I ∧ Hid (RwI w rr r0 (fa ls I) wr))
  case atStart => exact ⟨0, by omega, by omega, rfl, HI0⟩
  case round =>
    obtain ⟨I, hI, hkx, rfl, HI⟩ := hrel
    clear HI0
    by_cases hlt : I < L
    · obtain ⟨g, o, rfl, hg, hcell⟩ := ri_at HS.out I _ (hgd.out I (by omega))
      have hcell' := HI.out.nw.cell hcell
      obtain ⟨m, hm⟩ : ∃ m, m = ls.getD I 0 := ⟨_, rfl⟩
      have hm15 : m ≤ 15 := by rw [hm]; exact HE.out I
      obtain ⟨s0, s1⟩ := fa_step ls I m (by rw [hL'.out]; exact hlt) hm.symm
      have hz : (I : Int) < (L : Int) := by omega
      rw [← hm] at hcell'
      clear hcell hm
      by_cases hm0 : m = 0
      · subst hm0
        have HN : Hid (RwI w rr r0 (fa ls (I + 1)) wr) := HI.out.congr (fun n j _ _ => s0 rfl n j)
        clear HI HS HE hgd HP s0 s1
        go_wp2_with fail
        go_roundg (L - (I + 1))
        case measure => omega
        case rel => exact ⟨I + 1, by omega, by omega, by first | rfl | (congr 1), HN⟩
      · obtain ⟨c0, c1⟩ := HI.out.cell m 0 (by omega) (by omega)
        obtain ⟨k, hk⟩ : ∃ k, k = fa ls I m 0 := ⟨_, rfl⟩
        have hkb : k ≤ 320 := by
          rw [hk]; unfold fa ct
          simp only [if_true]
          split
          · omega
          · exact Nat.le_trans (List.count_le_length) (by rw [List.length_take]; omega)
        have HN : Hid (RwI w rr r0 (fa ls (I + 1)) (wr.setCell ⟨rr, m * 3, none⟩ (.int .i64 ((k : Int) + 1)))) := by
          have := (HI.out.set m 0 (k + 1) (by omega) (by omega) ((k : Int) + 1) (by omega)).congr (g := fa ls (I + 1)) (fun n j _ _ => by rw [hk]; exact s1 hm0 n j)
          exact this
        rw [← hk] at c0
        replace c0 : wr.cell? ⟨rr, m * 3, none⟩ = some (.int .i64 k) := c0
        replace c1 : wr.frozen? ⟨rr, m * 3, none⟩ = false := c1
        have hz2 : (0 : Int) < (m : Int) := by omega
        have hz3 : (m : Int) < 16 := by omega
        clear HI HS HE hgd HP s0 s1 hk
        go_wp2_with fail
        go_roundg (L - (I + 1))
        case measure => omega
        case rel => exact ⟨I + 1, by omega, by omega, by first | rfl | (congr 1), HN⟩
    · obtain rfl : I = L := by omega
      have HJ0 : Hid (RwI w rr r0 (fb ls 1) wr) := by
        refine HI.out.congr (fun n j _ hj => ?_)
        unfold fa fb
        rw [← hL'.out, List.take_length]
        split
        · rfl
        · split
          · rename_i h1 h2
            obtain rfl : n = 0 := by omega
            split <;> rfl
          · rfl
      have hz : ¬ (I : Int) < (I : Int) := by omega
      clear HI HS HE hgd
      go_wp2_with fail
      go_loopg [6] 16 (fun kx i wr => ∃ (N : Nat), 1 ≤ N ∧ N ≤ 16 ∧ 16 - N ≤ kx ∧ i = .int .i64 N ∧ Hid (RwI w rr r0 (fb ls N) wr))
      case atStart => exact ⟨1, by omega, by omega, by omega, rfl, HJ0⟩
      case round =>
        obtain ⟨N, hN1, hN2, hkx2, rfl, HJ⟩ := hrel
        clear HJ0
        by_cases hlt2 : N ≤ 15
        · obtain ⟨M, hM⟩ : ∃ M, M = N - 1 := ⟨_, rfl⟩
          have hMi : (N : Int) - 1 = (M : Int) := by omega
          obtain ⟨a0, _⟩ := HJ.out.cell M 0 (by omega) (by omega)
          obtain ⟨a1, _⟩ := HJ.out.cell M 1 (by omega) (by omega)
          obtain ⟨a2, _⟩ := HJ.out.cell M 2 (by omega) (by omega)
          rw [show fb ls N M 0 = ct ls M from rfl] at a0
          rw [show fb ls N M 1 = nm ls M by unfold fb; rw [if_neg (by decide), if_pos (by omega), if_pos rfl]] at a1
          rw [show fb ls N M 2 = pc ls M by unfold fb; rw [if_neg (by decide), if_pos (by omega), if_neg (by decide)]] at a2
          have hnN : nm ls N = 2 * (nm ls M + ct ls M) := by rw [show N = M + 1 by omega, nm]
          have hpN : pc ls N = pc ls M + ct ls M := by rw [show N = M + 1 by omega, pc]
          have hnb := nm_bound ls (by rw [hL'.out]; exact hl) M
          have hpb := pc_bound ls (by rw [hL'.out]; exact hl) M
          have h2M : 2 ^ M ≤ 2 ^ 15 := Nat.pow_le_pow_right (by decide) (by omega)
          have h2e : (2 : Nat) ^ 15 = 32768 := by decide
          have hcb : ct ls M ≤ 320 := by
            rw [ct]; split
            · omega
            · exact Nat.le_trans (List.count_le_length) (by rw [hL'.out]; exact hl)
          have hnb2 : nm ls M ≤ 20971520 := by omega
          have HN : Hid (∀ W, Nw wr W → RwI w rr r0 (fb ls N) W ∧ RwI w rr r0 (upd (fb ls N) N 1 (nm ls N)) (W.setCell ⟨rr, N * 3 + 1, none⟩ (.int .i64 (nm ls N))) ∧ RwI w rr r0 (fb ls (N + 1)) ((W.setCell ⟨rr, N * 3 + 1, none⟩ (.int .i64 (nm ls N))).setCell ⟨rr, N * 3 + 2, none⟩ (.int .i64 (pc ls N)))) := fun W hW => by
            have k0 := HJ.out.keep hW
            have k1 := k0.set N 1 (nm ls N) (by omega) (by omega) (nm ls N) rfl
            have k2 := (k1.set N 2 (pc ls N) (by omega) (by omega) (pc ls N) rfl).congr (g := fb ls (N + 1)) (fun n j _ hj => fb_step ls N hN1 n j hj)
            exact ⟨k0, k1, k2⟩
          have hvi : 2 * ((nm ls M : Int) + (ct ls M : Int)) = (nm ls N : Int) := by rw [hnN]; push_cast; rfl
          have hpi : (pc ls M : Int) + (ct ls M : Int) = (pc ls N : Int) := by rw [hpN]; push_cast; rfl
          have hnN2 : nm ls N ≤ 42000000 := by omega
          have hpN2 : pc ls N ≤ 10000 := by omega
          replace a0 : wr.cell? ⟨rr, M * 3, none⟩ = some (.int .i64 (ct ls M)) := a0
          have hz2 : (N : Int) ≤ 15 := by omega
          have hz3 : (N : Int) < 16 := by omega
          have hz4 : (M : Int) < 16 := by omega
          have hpb2 : pc ls M ≤ 10000 := by omega
          clear HJ HP hnN hpN hnb hpb hM h2M h2e
          have hrl : rr < wr.heap.size := World.block_lt_of_cell? _ _ a0
          generalize ct ls M = C at *
          generalize nm ls M = U at *
          generalize pc ls M = Q at *
          have HW := HN.out (wr.alloc (.cells #[.int .i64 C, .int .i64 U, .int .i64 Q] 88)) ((Fr.refl _ _).alloc _)
          have s0 := (row_cell (new_heap wr (.cells #[.int .i64 C, .int .i64 U, .int .i64 Q] 88)) 0 _ rfl).1
          have s1 := (row_cell (new_heap wr (.cells #[.int .i64 C, .int .i64 U, .int .i64 Q] 88)) 1 _ rfl).1
          have s2 := (row_cell (new_heap wr (.cells #[.int .i64 C, .int .i64 U, .int .i64 Q] 88)) 2 _ rfl).1
          have HW' : Hid _ := HW
          have HS3 : Hid (wr.heap.size ≠ rr) := by show _ ≠ _; omega
          clear HN HW hrl
          go_upto_region 12 with fail
          generalize wr.alloc (.cells #[.int .i64 C, .int .i64 U, .int .i64 Q] 88) = W1 at *
          obtain ⟨sb, hsb⟩ : ∃ sb, sb = wr.heap.size := ⟨_, rfl⟩
          rw [← hsb] at s0 s1 s2 HS3
          rw [← hsb]
          obtain ⟨k0, k1, k2⟩ := HW'.out
          obtain ⟨b0, b1⟩ := k0.cell N 1 (by omega) (by omega)
          obtain ⟨b2, b3⟩ := k1.cell N 2 (by omega) (by omega)
          have hf1 : Fr (fun k => k = rr) W1 (W1.setCell ⟨rr, N * 3 + 1, none⟩ (.int .i64 (nm ls N))) := (Fr.refl _ _).setCell _ _ (.inl rfl)
          have t0 := hf1.cellv s0 HS3.out
          have t2 := hf1.cellv s2 HS3.out
          have HN2 : Hid (RwI w rr r0 (fb ls (N + 1)) ((W1.setCell ⟨rr, N * 3 + 1, none⟩ (.int .i64 (nm ls N))).setCell ⟨rr, N * 3 + 2, none⟩ (.int .i64 (pc ls N)))) := k2
          clear HW' k0 k1 k2 hf1 a0 a1 a2 hsb
          generalize nm ls N = NN at *
          generalize pc ls N = PN at *
          generalize fb ls N N 1 = x1 at *
          generalize upd (fb ls N) N 1 NN N 2 = x2 at *
          go_upto_region 13 with fail
          generalize W1.setCell ⟨rr, N * 3 + 1, none⟩ (.int .i64 NN) = W2 at *
          clear s0 s1 s2 b0 b1
          go_wp2_with fail
          go_roundg (16 - (N + 1))
          case measure => omega
          case rel => exact ⟨N + 1, by omega, by omega, by omega, by first | rfl | (congr 1), HN2⟩
        · obtain rfl : N = 16 := by omega
          have hR : RwI w rr r0 (fr ls) wr := HJ.out.congr (fun n j hn hj => fb_last ls n j hn)
          have hr := hR.r
          have ho := hR.o
          have HF : Hid (∀ W, W.heap[r0]? = some (.cells (rowC (fr ls)) 90) → Fr (fun k => k = r0) wr W → P (.returned (.agg (rowC (fr ls)))) W) := fun W hW hf => by
            rw [HP.out]
            exact ⟨rfl, Fr.then hR.nw hf (fun i hi => .inr (by have := hR.h0; omega))⟩
          have hz2 : ¬ ((16 : Nat) : Int) ≤ 15 := by omega
          have hsz := rowC_size (fr ls)
          have hsz0 := rowC_size (fun _ _ => 0)
          have hone := rowC_one (fr ls)
          clear HJ HP hR
          generalize rowC (fr ls) = A at *
          generalize rowC (fun _ _ => 0) = A0 at *
          go_wp2_with (first
            | (refine wpList_load_row rfl 90 _ rfl rr (by simp [Act.eval]) 90 A (0, 0) _ hr Try.underlying90 rfl (by rw [size90, hsz]) ?_)
            | (refine wpList_store_row rfl 90 _ _ rfl r0 A (by first | rfl | simp [Act.eval]) (by first | rfl | simp [Act.eval]) 90 A0 ho (by rw [size90, hsz]) (by rw [hsz, hsz0]) hone ?_))
          refine bodyPost_ret (results_cell_row (P := Try.prog) rfl _ _ r0 90 A (0, 0) _ rfl (setRow_heap _ _ _ _ 90 _ ho) Try.underlying90 rfl (by rw [size90, hsz])) rfl ?_
          exact HF.out _ (setRow_heap _ _ _ _ 90 _ ho) ((Fr.refl _ _).setRow _ _ (.inl rfl))
end Go.Proofs.Ytkpkiajehclbhaa
