import Derived.Test.YtdeefemeiggolaaQu
import Derived.Recover
import Derived.Defers
import Derived.Laws.EntriesVeiled
namespace Go.Proofs.Ytdeefemeiggolaa
open Go.RowKit
set_option linter.unusedVariables false
set_option maxHeartbeats 4000000 in
/-- The deferred function, where nothing is to be recovered. -/
theorem catch_idle (x y z : Addr) (w : World) :
    CallsD Try.prog 46 #[.pointer (some x), .pointer (some y), .pointer (some z)] .returning w fun e u' w' => e = .returned (.tuple #[]) ∧ u' = .returning ∧ w' = w := by
  refine callsD_of_wpS Try.func46 rfl fun c₀ cs hu => ?_
  apply wpS_seq
  apply wpS_region
  simp [wpOpsS, go_sem, recoverD, hu, Try.ntmps46, Exit.thenS]
  refine wpS_of_wp ?_
  go_wp2_with fail
  cases c₀
  simp_all [bodyPostS, results, Try.results46]
set_option maxHeartbeats 4000000 in
set_option maxRecDepth 100000 in
/-- The deferred function, where a fault is recovered. -/
theorem catch_fault (xb yb zb a y : Nat) (older : _) (w : World) (h1 : xb ≠ yb) (h2 : xb ≠ zb) (h3 : yb ≠ zb) (vx vy vz : Value) (cx : w.cell? ⟨xb, 0, none⟩ = some vx) (cy : w.cell? ⟨yb, 0, none⟩ = some vy) (cz : w.cell? ⟨zb, 0, none⟩ = some vz) (fx : w.frozen? ⟨xb, 0, none⟩ = false) (fy : w.frozen? ⟨yb, 0, none⟩ = false) (fz : w.frozen? ⟨zb, 0, none⟩ = false) :
    CallsD Try.prog 46 #[.pointer (some ⟨xb, 0, none⟩), .pointer (some ⟨yb, 0, none⟩), .pointer (some ⟨zb, 0, none⟩)] (.panicking ({ v := .iface 78 (.agg #[.int .i64 a, .int .i64 y]), recovered := false } :: older)) w fun e u' w' => e = .returned (.tuple #[]) ∧ u' = .panicking ({ v := .iface 78 (.agg #[.int .i64 a, .int .i64 y]), recovered := true } :: older) ∧ w'.cell? ⟨xb, 0, none⟩ = some (.slice none 0 0) ∧ w'.cell? ⟨yb, 0, none⟩ = some (.int .i64 a) ∧ w'.cell? ⟨zb, 0, none⟩ = some (.int .i64 y) ∧ Fr (fun k => k = xb ∨ k = yb ∨ k = zb) w w' := by
  obtain ⟨fb, hfb⟩ : ∃ fb, w.heap.size = fb := ⟨_, rfl⟩
  obtain ⟨W1, hW1⟩ : ∃ W1, w.alloc (.cells #[.int .i64 a, .int .i64 y] 78) = W1 := ⟨_, rfl⟩
  have hN : Nw w W1 := by rw [← hW1]; exact (Fr.refl _ _).alloc _
  have hrow : W1.heap[fb]? = some (.cells #[.int .i64 a, .int .i64 y] 78) := by
    rw [← hW1, ← hfb]
    show (w.heap.push _)[w.heap.size]? = _
    rw [Array.getElem?_push_size]
  have f0 : W1.cell? ⟨fb, 0, none⟩ = some (.int .i64 a) := (row_cell hrow 0 _ rfl).1
  have f1 : W1.cell? ⟨fb, 1, none⟩ = some (.int .i64 y) := (row_cell hrow 1 _ rfl).1
  have lx := World.block_lt_of_cell? _ _ cx
  have ly := World.block_lt_of_cell? _ _ cy
  have lz := World.block_lt_of_cell? _ _ cz
  have gx := hN.cell cx
  have gy := hN.cell cy
  have gz := hN.cell cz
  have jx := (hN.frozen (p := ⟨xb, 0, none⟩) lx (fun h => h)).trans fx
  have jy := (hN.frozen (p := ⟨yb, 0, none⟩) ly (fun h => h)).trans fy
  have jz := (hN.frozen (p := ⟨zb, 0, none⟩) lz (fun h => h)).trans fz
  simp only at lx ly lz
  have n1 : ¬ xb = fb := by omega
  have n2 : ¬ yb = fb := by omega
  have n3 : ¬ zb = fb := by omega
  have m1 : ¬ fb = xb := by omega
  have m2 : ¬ fb = yb := by omega
  have m3 : ¬ fb = zb := by omega
  have o1 : ¬ xb = yb := h1
  have o2 : ¬ xb = zb := h2
  have o3 : ¬ yb = zb := h3
  have o4 : ¬ yb = xb := fun h => h1 h.symm
  have o5 : ¬ zb = xb := fun h => h2 h.symm
  have o6 : ¬ zb = yb := fun h => h3 h.symm
  clear lx ly lz cx cy cz fx fy fz hrow h1 h2 h3
  refine callsD_of_wpS Try.func46 rfl fun c₀ cs hu => ?_
  apply wpS_seq
  apply wpS_region
  simp [wpOpsS, go_sem, recoverD, hu, Try.ntmps46, Exit.thenS]
  have hta : ∀ (v : Value) (w : World), (Instr.typeAssert (.iface 78 v) 20 78 true).run Try.prog w = .ok (.tuple #[v, .bool true]) w := fun v w => by kernel_rfl
  change Code.wpS Try.prog _ _ { tmps := #[.pointer (some ⟨xb, 0, none⟩), .pointer (some ⟨yb, 0, none⟩), .pointer (some ⟨zb, 0, none⟩), undef, undef, undef, .iface 78 (.agg #[.int .i64 a, .int .i64 y]), undef, undef, undef, undef, undef, undef, undef, undef, undef], defers := [] } _ _
  refine wpS_of_wp ?_
  go_wp2_with fail
  go_region
  go_wp2_with fail
  have e1 : ((W1.setCell ⟨xb, 0, none⟩ (.slice none 0 0)).setCell ⟨yb, 0, none⟩ (.int .i64 a)).cell? ⟨xb, 0, none⟩ = some (.slice none 0 0) := by
    rw [World.cell?_setCell_other _ _ _ _ (by intro e; injection e with e; exact o1 e.symm)]
    exact World.cell?_setCell_same _ _ _ gx
  have e2 : (W1.setCell ⟨xb, 0, none⟩ (.slice none 0 0)).cell? ⟨yb, 0, none⟩ = some vy := by
    rw [World.cell?_setCell_other _ _ _ _ (by intro e; injection e with e; exact o4 e.symm)]
    exact gy
  have e3 : ((W1.setCell ⟨xb, 0, none⟩ (.slice none 0 0)).setCell ⟨yb, 0, none⟩ (.int .i64 a)).cell? ⟨zb, 0, none⟩ = some vz := by
    rw [World.cell?_setCell_other _ _ _ _ (by intro e; injection e with e; exact o6 e.symm), World.cell?_setCell_other _ _ _ _ (by intro e; injection e with e; exact o5 e.symm)]
    exact gz
  have HF : (((W1.setCell ⟨xb, 0, none⟩ (.slice none 0 0)).setCell ⟨yb, 0, none⟩ (.int .i64 a)).setCell ⟨zb, 0, none⟩ (.int .i64 y)).drew.cell? ⟨xb, 0, none⟩ = some (.slice none 0 0) ∧ (((W1.setCell ⟨xb, 0, none⟩ (.slice none 0 0)).setCell ⟨yb, 0, none⟩ (.int .i64 a)).setCell ⟨zb, 0, none⟩ (.int .i64 y)).drew.cell? ⟨yb, 0, none⟩ = some (.int .i64 a) ∧ (((W1.setCell ⟨xb, 0, none⟩ (.slice none 0 0)).setCell ⟨yb, 0, none⟩ (.int .i64 a)).setCell ⟨zb, 0, none⟩ (.int .i64 y)).drew.cell? ⟨zb, 0, none⟩ = some (.int .i64 y) ∧ Fr (fun k => k = xb ∨ k = yb ∨ k = zb) w (((W1.setCell ⟨xb, 0, none⟩ (.slice none 0 0)).setCell ⟨yb, 0, none⟩ (.int .i64 a)).setCell ⟨zb, 0, none⟩ (.int .i64 y)).drew := by
    refine ⟨?_, ?_, ?_, ((((hN.any).setCell _ _ (.inl (.inl rfl))).setCell _ _ (.inl (.inr (.inl rfl)))).setCell _ _ (.inl (.inr (.inr rfl)))).drew⟩
    · show World.cell? _ _ = _
      exact (World.cell?_setCell_other _ _ _ _ (by intro e; injection e with e; exact o2 e.symm)).trans e1
    · exact (World.cell?_setCell_other _ _ _ _ (by intro e; injection e with e; exact o3 e.symm)).trans (World.cell?_setCell_same _ _ _ e2)
    · exact World.cell?_setCell_same _ _ _ e3
  generalize (((W1.setCell ⟨xb, 0, none⟩ (.slice none 0 0)).setCell ⟨yb, 0, none⟩ (.int .i64 a)).setCell ⟨zb, 0, none⟩ (.int .i64 y)).drew = W9 at *
  clear e1 e2 e3 o1 o2 o3 o4 o5 o6 n1 n2 n3 m1 m2 m3 gx gy gz jx jy jz f0 f1 hW1 hN hta
  obtain ⟨g1, g2, g3, g4⟩ := HF
  cases c₀
  simp_all [bodyPostS, results, Try.results46]
end Go.Proofs.Ytdeefemeiggolaa

namespace Go.Proofs.Ytdeefemeiggolaa
open Go.RowKit
set_option linter.unusedVariables false
set_option maxHeartbeats 8000000 in
set_option maxRecDepth 100000 in
theorem fread_arg (w : World) (a : Option Addr) (n k : Nat) (most : Int) (fn : Value) (hm : most < 0 ∨ 4194304 < most) :
    Calls Try.prog 29 #[.slice a n k, .int .i64 most, fn] w fun e w' => e = .returned (.tuple #[.slice none 0 0, .int .i64 0, .int .i64 1]) ∧ Nw w w' := by
  have hN : Nw w (((w.alloc (.cells #[.slice none 0 0] 22)).alloc (.cells #[.int .i64 0] 3)).alloc (.cells #[.int .i64 1] 26)) := (((Fr.refl _ _).alloc _).alloc _).alloc _
  rcases hm with hm | hm
  · go_enter_defers Try.func29, Try.ntmps29
    go_wp2_with fail
    simp [bodyPostD, Leaves, results, Try.results29, go_sem]
    exact hN
  · have h0 : 0 ≤ most := by omega
    have h1 : ¬ most ≤ 4194304 := by omega
    go_enter_defers Try.func29, Try.ntmps29
    go_wp2_with fail
    simp [bodyPostD, Leaves, results, Try.results29, go_sem]
    exact hN
theorem new_row (w : World) (o : Obj) (n : Nat) (h : w.heap.size = n) : (w.alloc o).heap[n]? = some o := by
  subst h
  show (w.heap.push _)[w.heap.size]? = _
  rw [Array.getElem?_push_size]
theorem three_set (W : World) (xb yb zb : Nat) (h1 : xb ≠ yb) (h2 : xb ≠ zb) (h3 : yb ≠ zb) (vx vy vz ux uy uz : Value) (gx : W.cell? ⟨xb, 0, none⟩ = some vx) (gy : W.cell? ⟨yb, 0, none⟩ = some vy) (gz : W.cell? ⟨zb, 0, none⟩ = some vz) :
    ∃ W', W' = (((W.setCell ⟨xb, 0, none⟩ ux).setCell ⟨yb, 0, none⟩ uy).setCell ⟨zb, 0, none⟩ uz).drew ∧ W'.cell? ⟨xb, 0, none⟩ = some ux ∧ W'.cell? ⟨yb, 0, none⟩ = some uy ∧ W'.cell? ⟨zb, 0, none⟩ = some uz ∧ Fr (fun k => k = xb ∨ k = yb ∨ k = zb) W W' := by
  have e1 : ((W.setCell ⟨xb, 0, none⟩ ux).setCell ⟨yb, 0, none⟩ uy).cell? ⟨xb, 0, none⟩ = some ux := by
    rw [World.cell?_setCell_other _ _ _ _ (by intro e; injection e with e; exact h1 e.symm)]
    exact World.cell?_setCell_same _ _ _ gx
  have e2 : (W.setCell ⟨xb, 0, none⟩ ux).cell? ⟨yb, 0, none⟩ = some vy := by
    rw [World.cell?_setCell_other _ _ _ _ (by intro e; injection e with e; exact h1 e)]
    exact gy
  have e3 : ((W.setCell ⟨xb, 0, none⟩ ux).setCell ⟨yb, 0, none⟩ uy).cell? ⟨zb, 0, none⟩ = some vz := by
    rw [World.cell?_setCell_other _ _ _ _ (by intro e; injection e with e; exact h3 e), World.cell?_setCell_other _ _ _ _ (by intro e; injection e with e; exact h2 e)]
    exact gz
  refine ⟨_, rfl, ?_, ?_, ?_, (((Fr.refl _ _).setCell _ _ (.inl (.inl rfl))).setCell _ _ (.inl (.inr (.inl rfl)))).setCell _ _ (.inl (.inr (.inr rfl))) |>.drew⟩
  · exact (World.cell?_setCell_other _ _ _ _ (by intro e; injection e with e; exact h2 e.symm)).trans e1
  · exact (World.cell?_setCell_other _ _ _ _ (by intro e; injection e with e; exact h3 e.symm)).trans (World.cell?_setCell_same _ _ _ e2)
  · exact World.cell?_setCell_same _ _ _ e3
/-- What is asked of the function that is told of each frame. -/
structure Tells (D : Nat) (b : List By) (c : Nat) (cap : Array Value) (XT : Nat → Prop) (TI : (Nat → Prop) → World → List Fm → Prop) (w : World) : Prop where
  eg : ∀ args w, (callFunc c args).run Try.prog w = .ok (.enter c args) w
  xt : ∀ k, XT k → D ≤ k ∧ k < w.heap.size
  t0 : ∀ V K, Nw w V → (∀ k, k < w.heap.size → K k) → TI K V []
  t1 : ∀ K V V' fs Y, TI K V fs → Fr Y V V' → (∀ k, Y k → ¬ K k ∨ (w.heap.size ≤ k ∧ k ≤ w.heap.size + 3)) → TI K V' fs
  t2 : ∀ K V fs f, TI K V fs → (∀ k, k ≤ w.heap.size + 3 → K k) → (∀ k, K k → k < V.heap.size) → fs.length * 8 + 8 ≤ b.length → Calls Try.prog c (#[.agg (frow f)] ++ cap) V fun e V' => (∃ r, e = .returned r) ∧ TI (fun k => K k ∨ (V.heap.size ≤ k ∧ k < V'.heap.size)) V' (fs ++ [f]) ∧ Fr (fun k => XT k ∨ (K k ∧ w.heap.size + 3 < k)) V V'
/-- What read answers. -/
def Rdd (b : List By) (XT : Nat → Prop) (TI : (Nat → Prop) → World → List Fm → Prop) (w : World) (r : Rz (List By × List Fm)) (e : Ending) (w' : World) : Prop :=
  Fr XT w w' ∧ match r with
    | .bad a y => e = .returned (.tuple #[.slice none 0 0, .int .i64 a, .int .i64 y])
    | .ok (out, fs) => ∃ a k, e = .returned (.tuple #[.slice a out.length k, .int .i64 b.length, .int .i64 0]) ∧ Mine (fun k => k < w.heap.size) (.slice a out.length k) out w' ∧ ∃ K, TI K w' fs
/-- The results' cells. -/
def RC (pb : Nat) (V : World) : Prop := V.heap[pb]? = some (.cells #[.slice none 0 0] 22) ∧ V.heap[pb + 1]? = some (.cells #[.int .i64 0] 3) ∧ V.heap[pb + 1 + 1]? = some (.cells #[.int .i64 0] 26)
theorem RC.kept {pb : Nat} {V V' : World} {X : Nat → Prop} (h : RC pb V) (f : Fr X V V') (hx : ∀ k, pb ≤ k → k ≤ pb + 2 → ¬ X k) : RC pb V' :=
  ⟨row_kept h.1 f (hx _ (by omega) (by omega)), row_kept h.2.1 f (hx _ (by omega) (by omega)), row_kept h.2.2 f (hx _ (by omega) (by omega))⟩
/-- How read's loop stands. -/
def LIv (D g o c : Nat) (b : List By) (most : Nat) (XT : Nat → Prop) (TI : (Nat → Prop) → World → List Fm → Prop) (w : World) (p : Nat) (out : List By) (fs : List Fm) (K : Nat → Prop) (V : World) : Prop :=
  RdI D (w.heap.size + 1 + 1 + 1) g o c b most p out K V ∧ TI K V fs ∧ readF b most p out fs = readF b most 0 [] [] ∧ fs.length * 8 ≤ p ∧ (∀ k, k ≤ w.heap.size + 3 → K k) ∧ RC w.heap.size V ∧ Fr XT w V
set_option maxHeartbeats 16000000 in
set_option maxRecDepth 100000 in
theorem fread_some {D g o c : Nat} {b : List By} {most : Nat} {cn : Nat} {cap : Array Value} {XT : Nat → Prop} {TI : (Nat → Prop) → World → List Fm → Prop} {w : World} (HT : Tells D b cn cap XT TI w) (hg : g < D) (hD : D ≤ w.heap.size) (hrd : Rd g o b w) (hc : b.length ≤ c) (hc2 : c < 9223372036854775808) (hbl : b.length ≤ 140737488351232) (hm : most ≤ 4194304) :
    Calls Try.prog 29 #[.slice (some ⟨g, o, none⟩) b.length c, .int .i64 most, .func (.func cn) #[] cap] w (Rdd b XT TI w (readF b most 0 [] [])) := by
  obtain ⟨P, hP⟩ : ∃ P : Ending → World → Prop, P = Rdd b XT TI w (readF b most 0 [] []) := ⟨_, rfl⟩
  rw [← hP]
  have HP : Hid (P = Rdd b XT TI w (readF b most 0 [] [])) := hP
  clear hP
  obtain ⟨W4, hW4⟩ : ∃ W4, (((w.alloc (.cells #[.slice none 0 0] 22)).alloc (.cells #[.int .i64 0] 3)).alloc (.cells #[.int .i64 0] 26)).alloc (.cells #[.slice (some ⟨g, o, none⟩) b.length c, .int .i64 0, .int .i64 most, .slice none 0 0] 81) = W4 := ⟨_, rfl⟩
  have hN4 : Nw w W4 := by rw [← hW4]; exact ((((Fr.refl _ _).alloc _).alloc _).alloc _).alloc _
  have hs4 : W4.heap.size = w.heap.size + 4 := by rw [← hW4]; simp only [World.alloc, Array.size_push]
  obtain ⟨A1, hA1⟩ : ∃ A1, A1 = w.alloc (.cells #[.slice none 0 0] 22) := ⟨_, rfl⟩
  obtain ⟨A2, hA2⟩ : ∃ A2, A2 = A1.alloc (.cells #[.int .i64 0] 3) := ⟨_, rfl⟩
  obtain ⟨A3, hA3⟩ : ∃ A3, A3 = A2.alloc (.cells #[.int .i64 0] 26) := ⟨_, rfl⟩
  have s1 : A1.heap.size = w.heap.size + 1 := by rw [hA1]; simp only [World.alloc, Array.size_push]
  have s2 : A2.heap.size = w.heap.size + 1 + 1 := by rw [hA2]; simp only [World.alloc, Array.size_push]; omega
  have s3 : A3.heap.size = w.heap.size + 1 + 1 + 1 := by rw [hA3]; simp only [World.alloc, Array.size_push]; omega
  have n2 : Nw A1 A2 := by rw [hA2]; exact (Fr.refl _ _).alloc _
  have n3 : Nw A2 A3 := by rw [hA3]; exact (Fr.refl _ _).alloc _
  have hW4' : W4 = A3.alloc (.cells #[.slice (some ⟨g, o, none⟩) b.length c, .int .i64 0, .int .i64 most, .slice none 0 0] 81) := by rw [hA3, hA2, hA1]; exact hW4.symm
  have n4 : Nw A3 W4 := by rw [hW4']; exact (Fr.refl _ _).alloc _
  have hRC : RC w.heap.size W4 := by
    refine ⟨n4.heap (n3.heap (n2.heap ?_)), n4.heap (n3.heap ?_), n4.heap ?_⟩
    · rw [hA1]; exact new_row _ _ _ rfl
    · rw [hA2]; exact new_row _ _ _ s1
    · rw [hA3]; exact new_row _ _ _ s2
  have hrow : W4.heap[w.heap.size + 1 + 1 + 1]? = some (.cells #[.slice (some ⟨g, o, none⟩) b.length c, .int .i64 0, .int .i64 most, .slice none 0 0] 81) := by
    rw [hW4']; exact new_row _ _ _ s3
  clear hA1 hA2 hA3 hW4' n2 n3 n4 s1 s2 s3 A1 A2 A3
  have hL0 : LIv D g o c b most XT TI w 0 [] [] (fun k => k < w.heap.size + 4) W4 := by
    refine ⟨⟨⟨_, hrow, Mine.nil _ _⟩, by omega, by omega, fun k hk => by omega, hg, hrd.nw hN4, fun k hk => by omega, hc, hc2, by omega, by simp, hm, hbl⟩, HT.t0 _ _ hN4 (fun k hk => by omega), rfl, by simp, fun k hk => by omega, hRC, hN4.any⟩
  have hxt := HT.xt
  -- a fault
  have BAD : Hid (∀ p out fs K V V' a y, LIv D g o c b most XT TI w p out fs K V → p < b.length → nextF b most p out = .bad a y → Fr (fun k => k = w.heap.size + 1 + 1 + 1 ∨ ¬ K k) V V' → RC w.heap.size V' ∧ ∀ V'', Fr (fun k => k = w.heap.size ∨ k = w.heap.size + 1 ∨ k = w.heap.size + 1 + 1) V' V'' → P (.returned (.tuple #[.slice none 0 0, .int .i64 a, .int .i64 y])) V'') := by
    rintro p out fs K V V' a y ⟨h1, h2, h3, h4, h5, h6, h7⟩ hp hn hF
    refine ⟨h6.kept hF (fun k hk1 hk2 hx => by
      rcases hx with hx | hx
      · omega
      · exact hx (h5 k (by omega))), fun V'' hF2 => ?_⟩
    rw [HP.out]
    refine ⟨(h7.then hF (fun k hk => ?_)).then hF2 (fun k hk => ?_), ?_⟩
    · rcases hk with hk | hk
      · exact .inr (by omega)
      · by_cases hkw : k < w.heap.size
        · exact absurd (h5 k (by omega)) hk
        · exact .inr (by omega)
    · exact .inr (by rcases hk with hk | hk | hk <;> omega)
    · rw [← h3, readF_eq, if_pos hp, hn]
  have GO : Hid (∀ p out fs K V, LIv D g o c b most XT TI w p out fs K V → p < b.length → Hid (Calls Try.prog 47 #[.pointer (some ⟨w.heap.size + 1 + 1 + 1, 0, none⟩)] V fun e V' => (∃ a y, e = flt a y ∧ Hid (RC w.heap.size V' ∧ ∀ V'', Fr (fun k => k = w.heap.size ∨ k = w.heap.size + 1 ∨ k = w.heap.size + 1 + 1) V' V'' → P (.returned (.tuple #[.slice none 0 0, .int .i64 a, .int .i64 y])) V'')) ∨ (∃ va, e = .returned va ∧ Hid (Calls Try.prog cn (#[va] ++ cap) V' fun e V'' => (∃ r, e = .returned r) ∧ ∃ p' out' fs' K', p < p' ∧ p' ≤ b.length ∧ V''.cell? ⟨w.heap.size + 1 + 1 + 1, 1, none⟩ = some (.int .i64 p') ∧ Hid (LIv D g o c b most XT TI w p' out' fs' K' V''))))) := by
    intro p out fs K V hL hp
    show Calls _ _ _ _ _
    obtain ⟨h1, h2, h3, h4, h5, h6, h7⟩ := id hL
    refine (rnext_any h1).mono ?_
    rintro e V' ⟨hF, hr⟩
    cases hn : nextF b most p out with
    | bad a y =>
      rw [hn] at hr
      exact .inl ⟨a, y, hr, BAD.out _ _ _ _ _ _ _ _ hL hp hn hF⟩
    | ok r =>
      obtain ⟨f, out'⟩ := r
      rw [hn] at hr
      obtain ⟨rfl, hR⟩ := hr
      refine .inr ⟨_, rfl, ?_⟩
      show Calls _ _ _ _ _
      have hok := nextF_ok hn
      have hRC' : RC w.heap.size V' := h6.kept hF (fun k hk1 hk2 hx => by
        rcases hx with hx | hx
        · omega
        · exact hx (h5 k (by omega)))
      have hT' := HT.t1 K V V' fs _ h2 hF (fun k hk => by
        rcases hk with hk | hk
        · exact .inr (by omega)
        · exact .inl hk)
      have hF' : Fr XT w V' := h7.then hF (fun k hk => by
        rcases hk with hk | hk
        · exact .inr (by omega)
        · by_cases hkw : k < w.heap.size
          · exact absurd (h5 k (by omega)) hk
          · exact .inr (by omega))
      refine (HT.t2 K V' fs f hT' h5 hR.lt (by omega)).mono ?_
      rintro e V'' ⟨hret, hT2, hF2⟩
      have hR2 : RdI D (w.heap.size + 1 + 1 + 1) g o c b most f.till out' (fun k => K k ∨ (V'.heap.size ≤ k ∧ k < V''.heap.size)) V'' := hR.keep hF2 (fun k hk => by
        rcases hk with hk | hk
        · have := hxt k hk
          exact .inl ⟨h5 k (by omega), this.1, by omega⟩
        · exact .inl ⟨hk.1, by omega, by omega⟩) (fun k hk => .inl hk) (fun k hk => hk)
      refine ⟨hret, f.till, out', fs ++ [f], _, by omega, hok.2.2.1, hR2.cells.2.1, hR2, hT2, ?_, ?_, fun k hk => .inl (h5 k hk), hRC'.kept hF2 (fun k hk1 hk2 hx => ?_), hF'.then hF2 (fun k hk => ?_)⟩
      · rw [← h3]
        conv => rhs; rw [readF_eq, if_pos hp, hn]
      · rw [List.length_append, List.length_singleton]; omega
      · rcases hx with hx | hx
        · have := hxt k hx; omega
        · omega
      · rcases hk with hk | hk
        · exact .inl hk
        · exact .inr (by omega)
  have DONE : Hid (∀ out fs K V, LIv D g o c b most XT TI w b.length out fs K V → ∃ a k, V.cell? ⟨w.heap.size + 1 + 1 + 1, 3, none⟩ = some (.slice a out.length k) ∧ RC w.heap.size V ∧ Hid (∀ V'', Fr (fun k => k = w.heap.size ∨ k = w.heap.size + 1 ∨ k = w.heap.size + 1 + 1) V V'' → P (.returned (.tuple #[.slice a out.length k, .int .i64 b.length, .int .i64 0])) V'')) := by
    rintro out fs K V ⟨h1, h2, h3, h4, h5, h6, h7⟩
    obtain ⟨_, _, _, _, _, a, k, hv, _, _, hM⟩ := h1.cells
    refine ⟨a, k, hv, h6, fun V'' hF => ?_⟩
    rw [HP.out]
    have hin : ∀ j, (j = w.heap.size ∨ j = w.heap.size + 1 ∨ j = w.heap.size + 1 + 1) → K j := fun j hj => h5 j (by omega)
    refine ⟨h7.then hF (fun j hj => .inr (by omega)), ?_⟩
    rw [← h3, readF_eq, if_neg (by omega)]
    refine ⟨a, k, rfl, (hM.kept hF (fun j hj => .inl (hin j hj))).more (fun j hj => .inl (h5 j (by omega))), K, HT.t1 K V V'' fs _ h2 hF (fun j hj => .inr (by omega))⟩
  have eg := HT.eg
  have hmf : ∀ (fn : Fn) (first cap : Array Value) (w : World), (Instr.makeFunc fn first cap).run Try.prog w = .ok (.func fn first cap) w := fun _ _ _ _ => rfl
  have h0 : (0 : Int) ≤ (most : Int) := by omega
  have h1 : (most : Int) ≤ 4194304 := by omega
  have d1 : decide ((most : Int) < 0) = false := decide_eq_false (by omega)
  have d2 : decide (4194304 < (most : Int)) = false := decide_eq_false (by omega)
  have HL0 : Hid (LIv D g o c b most XT TI w 0 [] [] (fun k => k < w.heap.size + 4) W4) := hL0
  have hc4 : W4.cell? ⟨w.heap.size + 1 + 1 + 1, 1, none⟩ = some (.int .i64 0) := (row_cell hrow 1 _ rfl).1
  clear hL0 hrow hRC hN4 hs4 hxt HT hrd hg hD HP BAD
  obtain ⟨L, hLb⟩ : ∃ L, b.length = L := ⟨_, rfl⟩
  go_enter_defers Try.func29, Try.ntmps29
  go_wp2_with fail
  have HLb : Hid (b.length = L) := hLb
  rw [hLb] at hbl hc
  clear hLb
  go_loopg [30] L (fun kx i wr => ∃ (p : Nat) (out : List By) (fs : List Fm) (K : Nat → Prop), p ≤ L ∧ L - p ≤ kx ∧ wr.cell? ⟨w.heap.size + 1 + 1 + 1, 1, none⟩ = some (.int .i64 p) ∧ Hid (LIv D g o c b most XT TI w p out fs K wr))
  case atStart =>
    rw [HLb.out] at hW4
    refine ⟨0, [], [], (fun k => k < w.heap.size + 4), by omega, by omega, ?_, ?_⟩
    · rw [hW4]; exact hc4
    · rw [hW4]; exact HL0
  case round =>
    obtain ⟨p, out, fs, K, hp, hkx, hcp, HL⟩ := hrel
    clear HL0 hc4
    by_cases hlt : p < L
    · have hG := GO.out _ _ _ _ _ HL.out (by rw [HLb.out]; exact hlt)
      have hz : (p : Int) < (L : Int) := by omega
      clear GO DONE HL
      go_wp2_with fail
      go_at_call 47
      with_reducible refine hG.out.mono ?_
      rintro e w2 (⟨a, y, rfl, HF⟩ | ⟨va, rfl, HC⟩)
      · obtain ⟨⟨r1, r2, r3⟩, HF2⟩ := HF.out
        have k1 := row_cell r1 0 _ rfl
        have k2 := row_cell r2 0 _ rfl
        have k3 := row_cell r3 0 _ rfl
        clear HF hG
        unfold flt
        go_wp2_with fail
        refine leaves_cons (f := 46) (args := #[.pointer (some ⟨w.heap.size, 0, none⟩), .pointer (some ⟨w.heap.size + 1, 0, none⟩), .pointer (some ⟨w.heap.size + 1 + 1, 0, none⟩)]) (by simp) (by simp [go_sem]) ?_
        refine (catch_fault w.heap.size (w.heap.size + 1) (w.heap.size + 1 + 1) a y [] w2 (by omega) (by omega) (by omega) _ _ _ k1.1 k2.1 k3.1 k1.2 k2.2 k3.2).mono ?_
        rintro e u' w5 ⟨rfl, rfl, c1, c2, c3, hF⟩
        have HF3 := HF2 _ hF
        simp [Leaves, settle, results, Try.results29, go_sem, c1, c2, c3]
        exact HF3
      · go_wp2_with (go_at_fn cn; with_reducible refine (HC.out).mono ?_; rintro e w3 ⟨⟨r, rfl⟩, p', out', fs', K', g1, g2, g3, HL2⟩)
        go_roundg (L - p')
        all_goals (first | omega | exact ⟨p', out', fs', K', by rw [← HLb.out]; exact g2, Nat.le_refl _, g3, HL2⟩)
    · obtain rfl : p = L := by omega
      have HL' := HL.out
      rw [← HLb.out] at HL'
      obtain ⟨a, k, hv, ⟨r1, r2, r3⟩, HF⟩ := DONE.out _ _ _ _ HL'
      rw [HLb.out] at HF
      have k1 := row_cell r1 0 _ rfl
      have k2 := row_cell r2 0 _ rfl
      have k3 := row_cell r3 0 _ rfl
      obtain ⟨k11, k12⟩ := k1
      obtain ⟨k21, k22⟩ := k2
      obtain ⟨k31, k32⟩ := k3
      have hz : ¬ (p : Int) < (p : Int) := by omega
      clear GO DONE HL HL' r1 r2 r3
      go_wp2_with fail
      go_region
      go_wp2_with fail
      obtain ⟨W9, hW9, c1, c2, c3, hF⟩ := three_set wr w.heap.size (w.heap.size + 1) (w.heap.size + 1 + 1) (by omega) (by omega) (by omega) _ _ _ (.slice a out.length k) (.int .i64 p) (.int .i64 0) k11 k21 k31
      rw [← hW9]
      have HF2 := HF.out _ hF
      refine leaves_cons (f := 46) (args := #[.pointer (some ⟨w.heap.size, 0, none⟩), .pointer (some ⟨w.heap.size + 1, 0, none⟩), .pointer (some ⟨w.heap.size + 1 + 1, 0, none⟩)]) (by simp) (by simp [go_sem]) ?_
      refine (catch_idle ⟨w.heap.size, 0, none⟩ ⟨w.heap.size + 1, 0, none⟩ ⟨w.heap.size + 1 + 1, 0, none⟩ W9).mono ?_
      rintro e u' w5 ⟨rfl, rfl, rfl⟩
      simp [Leaves, settle, results, Try.results29, go_sem, c1, c2, c3]
      exact HF2
set_option maxHeartbeats 16000000 in
set_option maxRecDepth 100000 in
/-- Of no bytes. -/
theorem fread_none {D c : Nat} {a0 : Option Addr} {most : Nat} {cn : Nat} {cap : Array Value} {XT : Nat → Prop} {TI : (Nat → Prop) → World → List Fm → Prop} {w : World} (HT : Tells D [] cn cap XT TI w) (hm : most ≤ 4194304) (hc2 : c < 9223372036854775808) :
    Calls Try.prog 29 #[.slice a0 0 c, .int .i64 most, .func (.func cn) #[] cap] w (Rdd [] XT TI w (readF [] most 0 [] [])) := by
  obtain ⟨P, hP⟩ : ∃ P : Ending → World → Prop, P = Rdd [] XT TI w (readF [] most 0 [] []) := ⟨_, rfl⟩
  rw [← hP]
  obtain ⟨A1, hA1⟩ : ∃ A1, A1 = w.alloc (.cells #[.slice none 0 0] 22) := ⟨_, rfl⟩
  obtain ⟨A2, hA2⟩ : ∃ A2, A2 = A1.alloc (.cells #[.int .i64 0] 3) := ⟨_, rfl⟩
  obtain ⟨A3, hA3⟩ : ∃ A3, A3 = A2.alloc (.cells #[.int .i64 0] 26) := ⟨_, rfl⟩
  obtain ⟨W4, hW4⟩ : ∃ W4, (((w.alloc (.cells #[.slice none 0 0] 22)).alloc (.cells #[.int .i64 0] 3)).alloc (.cells #[.int .i64 0] 26)).alloc (.cells #[.slice a0 0 c, .int .i64 0, .int .i64 most, .slice none 0 0] 81) = W4 := ⟨_, rfl⟩
  have hN4 : Nw w W4 := by rw [← hW4]; exact ((((Fr.refl _ _).alloc _).alloc _).alloc _).alloc _
  have s1 : A1.heap.size = w.heap.size + 1 := by rw [hA1]; simp only [World.alloc, Array.size_push]
  have s2 : A2.heap.size = w.heap.size + 1 + 1 := by rw [hA2]; simp only [World.alloc, Array.size_push]; omega
  have s3 : A3.heap.size = w.heap.size + 1 + 1 + 1 := by rw [hA3]; simp only [World.alloc, Array.size_push]; omega
  have n2 : Nw A1 A2 := by rw [hA2]; exact (Fr.refl _ _).alloc _
  have n3 : Nw A2 A3 := by rw [hA3]; exact (Fr.refl _ _).alloc _
  have hW4' : W4 = A3.alloc (.cells #[.slice a0 0 c, .int .i64 0, .int .i64 most, .slice none 0 0] 81) := by rw [hA3, hA2, hA1]; exact hW4.symm
  have n4 : Nw A3 W4 := by rw [hW4']; exact (Fr.refl _ _).alloc _
  have hRC : RC w.heap.size W4 := by
    refine ⟨n4.heap (n3.heap (n2.heap ?_)), n4.heap (n3.heap ?_), n4.heap ?_⟩
    · rw [hA1]; exact new_row _ _ _ rfl
    · rw [hA2]; exact new_row _ _ _ s1
    · rw [hA3]; exact new_row _ _ _ s2
  have hrow : W4.heap[w.heap.size + 1 + 1 + 1]? = some (.cells #[.slice a0 0 c, .int .i64 0, .int .i64 most, .slice none 0 0] 81) := by
    rw [hW4']; exact new_row _ _ _ s3
  clear hA1 hA2 hA3 hW4' n2 n3 n4 s1 s2 s3 A1 A2 A3
  have HF : Hid (∀ V'', Fr (fun k => k = w.heap.size ∨ k = w.heap.size + 1 ∨ k = w.heap.size + 1 + 1) W4 V'' → P (.returned (.tuple #[.slice none 0 0, .int .i64 0, .int .i64 0])) V'') := by
    intro V'' hF
    rw [hP]
    refine ⟨(hN4.any (X := XT)).then hF (fun j hj => .inr (by omega)), ?_⟩
    rw [readF_eq, if_neg (by simp)]
    refine ⟨none, 0, rfl, Mine.nil _ _, (fun k => k < w.heap.size), HT.t1 _ W4 V'' [] _ (HT.t0 W4 _ hN4 (fun k hk => hk)) hF (fun j hj => .inr (by omega))⟩
  obtain ⟨k11, k12⟩ := row_cell hRC.1 0 _ rfl
  obtain ⟨k21, k22⟩ := row_cell hRC.2.1 0 _ rfl
  obtain ⟨k31, k32⟩ := row_cell hRC.2.2 0 _ rfl
  have j1 : W4.cell? ⟨w.heap.size + 1 + 1 + 1, 1, none⟩ = some (.int .i64 0) := (row_cell hrow 1 _ rfl).1
  have j3 : W4.cell? ⟨w.heap.size + 1 + 1 + 1, 3, none⟩ = some (.slice none 0 0) := (row_cell hrow 3 _ rfl).1
  have hmf : ∀ (fn : Fn) (first cap : Array Value) (w : World), (Instr.makeFunc fn first cap).run Try.prog w = .ok (.func fn first cap) w := fun _ _ _ _ => rfl
  have h0 : (0 : Int) ≤ (most : Int) := by omega
  have h1 : (most : Int) ≤ 4194304 := by omega
  have d1 : decide ((most : Int) < 0) = false := decide_eq_false (by omega)
  have d2 : decide (4194304 < (most : Int)) = false := decide_eq_false (by omega)
  clear hP HT hRC hrow hN4
  go_enter_defers Try.func29, Try.ntmps29
  go_wp2_with fail
  go_loopg [30] 0 (fun kx i wr => wr = W4)
  case atStart => rfl
  case round =>
    obtain rfl := hrel
    clear hW4
    go_wp2_with fail
    go_region
    go_wp2_with fail
    obtain ⟨W9, hW9, c1, c2, c3, hF⟩ := three_set wr w.heap.size (w.heap.size + 1) (w.heap.size + 1 + 1) (by omega) (by omega) (by omega) _ _ _ (.slice none 0 0) (.int .i64 0) (.int .i64 0) k11 k21 k31
    rw [← hW9]
    have HF2 := HF.out _ hF
    refine leaves_cons (f := 46) (args := #[.pointer (some ⟨w.heap.size, 0, none⟩), .pointer (some ⟨w.heap.size + 1, 0, none⟩), .pointer (some ⟨w.heap.size + 1 + 1, 0, none⟩)]) (by simp) (by simp [go_sem]) ?_
    refine (catch_idle ⟨w.heap.size, 0, none⟩ ⟨w.heap.size + 1, 0, none⟩ ⟨w.heap.size + 1 + 1, 0, none⟩ W9).mono ?_
    rintro e u' w5 ⟨rfl, rfl, rfl⟩
    simp [Leaves, settle, results, Try.results29, go_sem, c1, c2, c3]
    exact HF2
end Go.Proofs.Ytdeefemeiggolaa

namespace Go.Proofs.Ytdeefemeiggolaa
open Go.RowKit
set_option linter.unusedVariables false
/-- Decode of frames, as the document has it. -/
def fdec (b : List By) (most : Int) : List By × Nat × Nat :=
  if most < 0 ∨ 4194304 < most then ([], 0, 1) else
    match readF b most.toNat 0 [] [] with
    | .bad a y => ([], a, y)
    | .ok (out, _) => (out, b.length, 0)
theorem tell_none (D : Nat) (b : List By) (w : World) : Tells D b 30 #[] (fun _ => False) (fun _ _ _ => True) w where
  eg := enters_of Try.func30 (by kernel_rfl) rfl
  xt := fun k h => h.elim
  t0 := fun _ _ _ _ => trivial
  t1 := fun _ _ _ _ _ _ _ _ => trivial
  t2 := by
    intro K V fs f _ _ _ _
    show Calls Try.prog 30 #[.agg (frow f)] V _
    have hN : ∀ o, Nw V (V.alloc o) := fun o => (Fr.refl _ _).alloc _
    unfold frow
    go_enter Try.func30, Try.ntmps30
    go_wp2_with fail
    go_end0
    exact ⟨⟨_, rfl⟩, trivial, (hN _).any⟩
set_option maxHeartbeats 8000000 in
set_option maxRecDepth 100000 in
theorem fdecode_any (w : World) (vb : Value) (b : List By) (most : Int) (hb : Old w vb b) (hbl : b.length ≤ 140737488351232) :
    Calls Try.prog 15 #[vb, .int .i64 most] w (Decd (fdec b most) w) := by
  obtain ⟨P, hP⟩ : ∃ P : Ending → World → Prop, P = Decd (fdec b most) w := ⟨_, rfl⟩
  rw [← hP]
  obtain ⟨a, c, rfl, hc, hc2, hbo⟩ := hb.open
  have HC : Hid (Calls Try.prog 29 #[.slice a b.length c, .int .i64 most, .func (.func 30) #[] #[]] w fun e w' => ∃ a2 n2 k2 y z, e = .returned (.tuple #[.slice a2 n2 k2, .int .i64 y, .int .i64 z]) ∧ Hid (P (.returned (.tuple #[.slice a2 n2 k2, .int .i64 y, .int .i64 z])) w')) := by
    show Calls _ _ _ _ _
    by_cases hm : most < 0 ∨ 4194304 < most
    · refine (fread_arg w a b.length c most _ hm).mono ?_
      rintro e w' ⟨rfl, h1⟩
      refine ⟨_, _, _, _, _, rfl, ?_⟩
      show P _ _
      rw [hP, fdec, if_pos hm]
      exact Decd.none h1
    · obtain ⟨m, rfl⟩ : ∃ m : Nat, most = m := ⟨most.toNat, by omega⟩
      have hml : m ≤ 4194304 := by omega
      have key : Calls Try.prog 29 #[.slice a b.length c, .int .i64 m, .func (.func 30) #[] #[]] w (Rdd b (fun _ => False) (fun _ _ _ => True) w (readF b m 0 [] [])) := by
        by_cases hbn : b = []
        · subst hbn
          exact fread_none (D := w.heap.size) (tell_none _ _ w) hml hc2
        · obtain ⟨g, o, rfl, hg, hrd⟩ := hbo hbn
          exact fread_some (tell_none w.heap.size b w) hg (Nat.le_refl _) hrd hc hc2 hbl hml
      refine key.mono ?_
      rintro e w' ⟨hF, hr⟩
      have hd : fdec b m = match readF b m 0 [] [] with | .bad a y => ([], a, y) | .ok (out, _) => (out, b.length, 0) := by
        rw [fdec, if_neg hm]; rfl
      cases hrd : readF b m 0 [] [] with
      | bad x y =>
        rw [hrd] at hr hd
        simp only at hr hd
        subst hr
        refine ⟨_, _, _, _, _, rfl, ?_⟩
        show P _ _
        rw [hP, hd]
        exact Decd.none hF
      | ok r =>
        obtain ⟨out, fs⟩ := r
        rw [hrd] at hr hd
        simp only at hd
        obtain ⟨a2, k2, rfl, hM, _⟩ := hr
        refine ⟨_, _, _, _, _, rfl, ?_⟩
        show P _ _
        rw [hP, hd]
        exact ⟨a2, k2, rfl, hM, hF⟩
  clear hb hbo hP
  generalize b.length = L at *
  go_enter Try.func15, Try.ntmps15
  go_wp2_with (first | (go_at_call 29; with_reducible refine HC.out.mono ?_; rintro e w1 ⟨a2, n2, k2, y, z, rfl, HF⟩))
  exact HF.out
end Go.Proofs.Ytdeefemeiggolaa
