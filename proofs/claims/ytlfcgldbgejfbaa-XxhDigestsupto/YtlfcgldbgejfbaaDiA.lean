import Derived.Test.YtlfcgldbgejfbaaPiA
import Derived.Test.YtlfcgldbgejfbaaXxY
import Derived.Laws.Rows
namespace Go.Proofs.Ytlfcgldbgejfbaa
open Go.RowKit
set_option linter.unusedVariables false
theorem size66 : (Try.prog.info? 66).map (·.size) = some 38 := by kernel_rfl
theorem size68 : (Try.prog.info? 68).map (·.size) = some 38 := by kernel_rfl
theorem dcells_size32 (tot : Nat) (rest : List By) (hr : rest.length = 32) (s : BitVec 32) (x : La 32) : (dcells tot rest (ext32 s x)).toArray.size = 38 := by simp [dcells, ext32, hr]
theorem dcells_size64 (tot : Nat) (rest : List By) (hr : rest.length = 32) (s : BitVec 64) (x : La 64) : (dcells tot rest (ext64 s x)).toArray.size = 38 := by simp [dcells, ext64, hr]
theorem dcells_one32 (tot : Nat) (rest : List By) (s : BitVec 32) (x : La 32) : (dcells tot rest (ext32 s x)).toArray.all (·.oneCell') = true := by
  simp [dcells, ext32, Value.oneCell']
theorem dcells_one64 (tot : Nat) (rest : List By) (s : BitVec 64) (x : La 64) : (dcells tot rest (ext64 s x)).toArray.all (·.oneCell') = true := by
  simp [dcells, ext64, Value.oneCell']
theorem pushed (w : World) (o : Obj) : (w.alloc o).heap[w.heap.size]? = some o := by
  show (w.heap.push _)[w.heap.size]? = _
  simp
set_option maxHeartbeats 4000000 in
/-- A digest's copy: a new block that took the same. -/
theorem clone32_any (d : Nat) (s : BitVec 32) (l : List By) (w : World) (h : Took32 d s l w) : Calls Try.prog 33 #[.pointer (some ⟨d, 0, none⟩)] w fun e w' => e = .returned (.pointer (some ⟨w.heap.size, 0, none⟩)) ∧ Nw w w' ∧ Took32 w.heap.size s l w' ∧ w'.heap.size = w.heap.size + 1 := by
  obtain ⟨rest, h1, h2, h3⟩ := h
  have hsz := dcells_size32 (l.length % 18446744073709551616) rest h1 s (str32 s l)
  have hone := dcells_one32 (l.length % 18446744073709551616) rest s (str32 s l)
  have hFin : Hid (∀ V, DB 66 w.heap.size (l.length % 18446744073709551616) rest (ext32 s (str32 s l)) V → Took32 w.heap.size s l V) := fun V hV => ⟨rest, h1, hV, h3⟩
  unfold DB at h2 hFin
  generalize (dcells (l.length % 18446744073709551616) rest (ext32 s (str32 s l))).toArray = C at *
  go_enter Try.func33, Try.ntmps33
  go_wp2_with (first
    | (refine wpList_load_row rfl 66 _ rfl d (by simp [Act.eval]) 66 C (0, 0) _ h2 Try.underlying66 rfl (by rw [size66, hsz]) ?_)
    | (refine wpList_store_row rfl 66 _ _ rfl w.heap.size C (by simp [Act.eval]) (by simp [Act.eval]) 66 _ (pushed w _) (by rw [size66, hsz]) (by rw [hsz]; rfl) hone ?_))
  go_ret
  exact ⟨rfl, ((Fr.refl _ _).alloc _).setRow _ _ (.inr (Nat.le_refl _)), hFin.out _ (setRow_heap _ _ _ _ 66 _ (pushed w _)), by simp [World.setRow]⟩
set_option maxHeartbeats 4000000 in
/-- A digest that begins again. -/
theorem reset32_any (d : Nat) (s : BitVec 32) (l : List By) (w : World) (h : Took32 d s l w) : Calls Try.prog 31 #[.pointer (some ⟨d, 0, none⟩)] w fun e w' => (∃ r, e = .returned r) ∧ Took32 d s [] w' ∧ Fr (fun k => k = d) w w' := by
  obtain ⟨rest, h1, h2, h3⟩ := h
  have hsd := h2.ext h1 0 _ rfl
  have hdl := h2.lt
  have hsz0 := dcells_size32 (l.length % 18446744073709551616) rest h1 s (str32 s l)
  have HN : Hid (Calls Try.prog 13 #[.int .u32 s.toNat] w fun e w' => e = .returned (.pointer (some ⟨w.heap.size, 0, none⟩)) ∧ ∃ C C0, Nw w w' ∧ w'.heap[w.heap.size]? = some (.cells C 66) ∧ C.size = 38 ∧ C.all (·.oneCell') = true ∧ w'.heap[d]? = some (.cells C0 66) ∧ C0.size = C.size ∧ Hid (∀ V, V.heap[d]? = some (.cells C 66) → Took32 d s [] V)) := by
    refine (new32_any s _ rfl w).mono ?_
    rintro e w' ⟨rfl, hN, hD, _⟩
    exact ⟨rfl, _, _, hN, hD, dcells_size32 _ _ (by simp) _ _, dcells_one32 _ _ _ _, h2.nw hN, hsz0.trans (dcells_size32 _ _ (by simp) _ _).symm, fun V hV => Took32.new hV⟩
  clear h2 h3 hsz0
  go_enter Try.func31, Try.ntmps31
  go_wp2_with (first
    | (go_at_call 13; with_reducible refine (HN.out).mono ?_; rintro e w1 ⟨rfl, C, C0, hN1, hg1, hsz, hone, hg0, hsz0, HF⟩)
    | (refine wpList_load_row rfl 66 _ rfl w.heap.size (by simp [Act.eval]) 66 C (0, 0) _ hg1 Try.underlying66 rfl (by rw [size66, hsz]) ?_)
    | (refine wpList_store_row rfl 66 _ _ rfl d C (by simp [Act.eval]) (by simp [Act.eval]) 66 C0 hg0 (by rw [size66, hsz]) hsz0 hone ?_))
  go_end0
  exact ⟨⟨_, rfl⟩, HF.out _ (setRow_heap _ _ _ _ 66 _ hg0), hN1.any.setRow _ _ (.inl rfl)⟩
set_option maxHeartbeats 4000000 in
/-- A digest's copy: a new block that took the same. -/
theorem clone64_any (d : Nat) (s : BitVec 64) (l : List By) (w : World) (h : Took64 d s l w) : Calls Try.prog 34 #[.pointer (some ⟨d, 0, none⟩)] w fun e w' => e = .returned (.pointer (some ⟨w.heap.size, 0, none⟩)) ∧ Nw w w' ∧ Took64 w.heap.size s l w' ∧ w'.heap.size = w.heap.size + 1 := by
  obtain ⟨rest, h1, h2, h3⟩ := h
  have hsz := dcells_size64 (l.length % 18446744073709551616) rest h1 s (str64 s l)
  have hone := dcells_one64 (l.length % 18446744073709551616) rest s (str64 s l)
  have hFin : Hid (∀ V, DB 68 w.heap.size (l.length % 18446744073709551616) rest (ext64 s (str64 s l)) V → Took64 w.heap.size s l V) := fun V hV => ⟨rest, h1, hV, h3⟩
  unfold DB at h2 hFin
  generalize (dcells (l.length % 18446744073709551616) rest (ext64 s (str64 s l))).toArray = C at *
  go_enter Try.func34, Try.ntmps34
  go_wp2_with (first
    | (refine wpList_load_row rfl 68 _ rfl d (by simp [Act.eval]) 68 C (0, 0) _ h2 Try.underlying68 rfl (by rw [size68, hsz]) ?_)
    | (refine wpList_store_row rfl 68 _ _ rfl w.heap.size C (by simp [Act.eval]) (by simp [Act.eval]) 68 _ (pushed w _) (by rw [size68, hsz]) (by rw [hsz]; rfl) hone ?_))
  go_ret
  exact ⟨rfl, ((Fr.refl _ _).alloc _).setRow _ _ (.inr (Nat.le_refl _)), hFin.out _ (setRow_heap _ _ _ _ 68 _ (pushed w _)), by simp [World.setRow]⟩
set_option maxHeartbeats 4000000 in
/-- A digest that begins again. -/
theorem reset64_any (d : Nat) (s : BitVec 64) (l : List By) (w : World) (h : Took64 d s l w) : Calls Try.prog 32 #[.pointer (some ⟨d, 0, none⟩)] w fun e w' => (∃ r, e = .returned r) ∧ Took64 d s [] w' ∧ Fr (fun k => k = d) w w' := by
  obtain ⟨rest, h1, h2, h3⟩ := h
  have hsd := h2.ext h1 0 _ rfl
  have hdl := h2.lt
  have hsz0 := dcells_size64 (l.length % 18446744073709551616) rest h1 s (str64 s l)
  have HN : Hid (Calls Try.prog 14 #[.int .u64 s.toNat] w fun e w' => e = .returned (.pointer (some ⟨w.heap.size, 0, none⟩)) ∧ ∃ C C0, Nw w w' ∧ w'.heap[w.heap.size]? = some (.cells C 68) ∧ C.size = 38 ∧ C.all (·.oneCell') = true ∧ w'.heap[d]? = some (.cells C0 68) ∧ C0.size = C.size ∧ Hid (∀ V, V.heap[d]? = some (.cells C 68) → Took64 d s [] V)) := by
    refine (new64_any s _ rfl w).mono ?_
    rintro e w' ⟨rfl, hN, hD, _⟩
    exact ⟨rfl, _, _, hN, hD, dcells_size64 _ _ (by simp) _ _, dcells_one64 _ _ _ _, h2.nw hN, hsz0.trans (dcells_size64 _ _ (by simp) _ _).symm, fun V hV => Took64.new hV⟩
  clear h2 h3 hsz0
  go_enter Try.func32, Try.ntmps32
  go_wp2_with (first
    | (go_at_call 14; with_reducible refine (HN.out).mono ?_; rintro e w1 ⟨rfl, C, C0, hN1, hg1, hsz, hone, hg0, hsz0, HF⟩)
    | (refine wpList_load_row rfl 68 _ rfl w.heap.size (by simp [Act.eval]) 68 C (0, 0) _ hg1 Try.underlying68 rfl (by rw [size68, hsz]) ?_)
    | (refine wpList_store_row rfl 68 _ _ rfl d C (by simp [Act.eval]) (by simp [Act.eval]) 68 C0 hg0 (by rw [size68, hsz]) hsz0 hone ?_))
  go_end0
  exact ⟨⟨_, rfl⟩, HF.out _ (setRow_heap _ _ _ _ 68 _ hg0), hN1.any.setRow _ _ (.inl rfl)⟩
end Go.Proofs.Ytlfcgldbgejfbaa
