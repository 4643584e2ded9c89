import Derived.Test.YtpnacppmdlnjlaaOfA
import Derived.Test.YtpnacppmdlnjlaaPaG
import Derived.Test.YtpnacppmdlnjlaaMaO
import Derived.Test.YtpnacppmdlnjlaaMaQ
import Derived.Test.YtpnacppmdlnjlaaLzC3
namespace Go.Proofs.Ytpnacppmdlnjlaa
open Go.RowKit
set_option linter.unusedVariables false
/-- A copy of bytes in new memory. -/
theorem new_copy (w : World) (x : Value) (p : List By) (hx : Sl (fun k => w.heap.size ≤ k) x p w) (hl : p.length ≤ 140737488351232) :
    ∃ a c W, Hid (∀ ty, (Builtin.append_ #[22, 22] ty #[.slice (some ⟨w.heap.size, 0, none⟩) 0 0, x]).run Try.prog (w.alloc (.cells #[] 5)) = .ok (.slice a p.length c) W) ∧ Mine (fun k => k < w.heap.size) (.slice a p.length c) p W ∧ Nw w W := by
  have hA : Nw w (w.alloc (.cells #[] 5)) := (Fr.refl _ _).alloc _
  obtain ⟨v', g', W, k1, k2, k3, k4⟩ := app_any (w.alloc (.cells #[] 5)) w.heap.size _ [] (Ow.empty w) x p ((hx.nw hA).mono (fun _ h => h.elim)) (by simp; omega)
  rw [List.nil_append] at k2
  have k2' := k2
  obtain ⟨xs, rfl, _⟩ := k2'
  refine ⟨_, _, W, k1, .inr ⟨g', ?_, k2⟩, Fr.then hA k3 (fun i hi => .inr (by omega))⟩
  rcases k4 with h | h
  · omega
  · simp at h; omega
theorem parse_why (B : List By) : ((parse B).2.2 = 0 ∧ ∃ ms p, B = mk ms p ∧ parse B = (ms ++ [⟨p, 0, 0⟩], 0, 0) ∧ ∀ s ∈ ms, canS s) ∨ ∃ a y, parse B = ([], a, y) ∧ y ≠ 0 := by
  unfold parse
  cases h : scanS ls B.length B ⟨[], ⟨[], 0, 0⟩, 0⟩ with
  | bad a y => exact .inr ⟨a, y, rfl, (scanS_bad ls B.length B.length B _ a y (Nat.le_refl _) h).2⟩
  | good s' =>
    obtain ⟨ms, p, e1, e2, e3⟩ := mk_parse B.length B.length B _ s' (Nat.le_refl _) h
    refine .inl ⟨rfl, ms, p, e1, ?_, e3⟩
    simp only
    rw [e2]
    simp
theorem mkR_ab : mkR [⟨[97#8, 98#8], 0, 0⟩] = ([32#8, 97#8, 98#8], 0) := by
  have hc : CanB [⟨[97#8, 98#8], 0, 0⟩] := ⟨by simp, fun i h => by simp at h, fun h => by simp⟩
  rw [mkR_ok hc (by simp [tot])]
  simp [mkI, encP, encL, ext, tok]
theorem new_cell_fr (w : World) (cs : Array Value) (t : TypeId) (fr : Nat × Nat) (j : Nat) (v : Value) (hv : cs[j]? = some v) : (w.alloc (.cells cs t fr)).cell? ⟨w.heap.size, j, none⟩ = some v := by
  have : (w.alloc (.cells cs t fr)).heap[w.heap.size]? = some (.cells cs t fr) := by
    show (w.heap.push _)[w.heap.size]? = _
    simp
  unfold World.cell?
  simp only [this]
  exact hv
theorem ab_seq (U : World) : OldS ((U.alloc (.cells #[.int .u8 97, .int .u8 98] 5 (2, 3))).alloc (.cells #[.slice (some ⟨U.heap.size, 0, none⟩) 2 2, .int .i64 0, .int .i64 0] 36)) (.slice (some ⟨U.heap.size + 1, 0, none⟩) 1 1) [⟨[97#8, 98#8], 0, 0⟩] := by
  have s1 : (U.alloc (.cells #[.int .u8 97, .int .u8 98] 5 (2, 3))).heap.size = U.heap.size + 1 := by simp
  have hN : Nw (U.alloc (.cells #[.int .u8 97, .int .u8 98] 5 (2, 3))) ((U.alloc (.cells #[.int .u8 97, .int .u8 98] 5 (2, 3))).alloc (.cells #[.slice (some ⟨U.heap.size, 0, none⟩) 2 2, .int .i64 0, .int .i64 0] 36)) := (Fr.refl _ _).alloc _
  have hc : ∀ j v, (#[.slice (some ⟨U.heap.size, 0, none⟩) 2 2, .int .i64 0, .int .i64 0] : Array Value)[j]? = some v → ((U.alloc (.cells #[.int .u8 97, .int .u8 98] 5 (2, 3))).alloc (.cells #[.slice (some ⟨U.heap.size, 0, none⟩) 2 2, .int .i64 0, .int .i64 0] 36)).cell? ⟨U.heap.size + 1, j, none⟩ = some v := fun j v hv => by
    have := new_cell (U.alloc (.cells #[.int .u8 97, .int .u8 98] 5 (2, 3))) #[.slice (some ⟨U.heap.size, 0, none⟩) 2 2, .int .i64 0, .int .i64 0] 36 j v hv
    rw [s1] at this; exact this
  refine ⟨_, _, rfl, by simp, by decide, by simp, fun _ => ⟨U.heap.size + 1, 0, by simp, rfl, fun i hi => ?_⟩⟩
  obtain rfl : i = 0 := by simp at hi; exact hi
  refine ⟨some ⟨U.heap.size, 0, none⟩, 2, hc 0 _ rfl, hc 1 _ rfl, hc 2 _ rfl, .inr ⟨U.heap.size, by simp; omega, 0, 2, rfl, by simp, by decide, fun j hj => ?_⟩, by simp⟩
  have : j = 0 ∨ j = 1 := by simp at hj; omega
  rcases this with rfl | rfl
  · exact hN.cell (new_cell_fr _ _ _ _ _ _ rfl)
  · exact hN.cell (new_cell_fr _ _ _ _ _ _ rfl)
theorem one_tail (w U : World) (hU : Nw w U) : Calls Try.prog 19 #[.slice (some ⟨U.heap.size + 1, 0, none⟩) 1 1] ((U.alloc (.cells #[.int .u8 97, .int .u8 98] 5 (2, 3))).alloc (.cells #[.slice (some ⟨U.heap.size, 0, none⟩) 2 2, .int .i64 0, .int .i64 0] 36)) fun e w9 => ∃ a9 c9, e = .returned (.tuple #[.slice a9 3 c9, .int .i64 0]) ∧ Hid (Nw w w9) := by
  refine (lzMake_any _ _ _ (ab_seq U)).mono ?_
  rw [mkR_ab]
  rintro e w9 ⟨a9, c9, rfl, _, hN9⟩
  exact ⟨a9, c9, rfl, ((hU.alloc _).alloc _).trans hN9⟩
theorem mkI_len {l : List Si} (h : CanB l) (h2 : tot l ≤ 4194304) : (mkI l).length ≤ 100000000 := by
  have h3 := mkI_le h l.length (Nat.le_refl _)
  have h4 := h.count l.length (Nat.le_refl _)
  rw [List.take_length] at h3 h4
  omega
theorem sqs_p (ms : List Sq) (p : List By) (X : Nat) (h : (mk ms p).length ≤ X) : (ms ++ [(⟨p, 0, 0⟩ : Sq)]).length ≤ X ∧ ∀ s ∈ ms ++ [(⟨p, 0, 0⟩ : Sq)], s.p.length ≤ X := by
  have h0 : ms.length ≤ (ms.flatMap encS).length := by
    clear h
    induction ms with
    | nil => simp
    | cons x r ih =>
      rw [List.flatMap_cons, List.length_append, List.length_cons]
      have : 1 ≤ (encS x).length := by unfold encS; simp
      omega
  have h1 : 1 + p.length ≤ (encL p).length := by unfold encL; simp only [List.length_cons, List.length_append]; omega
  unfold mk at h
  rw [List.length_append] at h
  refine ⟨by simp; omega, fun s hs => ?_⟩
  rcases List.mem_append.1 hs with hs | hs
  · have : s.p.length ≤ (ms.flatMap encS).length := by
      clear h h0
      induction ms with
      | nil => simp at hs
      | cons x r ih =>
        rw [List.flatMap_cons, List.length_append]
        rcases List.mem_cons.1 hs with rfl | hs
        · have : s.p.length ≤ (encS s).length := by unfold encS; simp only [List.length_cons, List.length_append]; omega
          omega
        · have := ih (List.mem_append_left _ hs) hs; omega
    omega
  · simp at hs; subst hs; simp only; omega
set_option maxHeartbeats 4000000 in
/-- From copies on, where it can be made. -/
theorem tail_ok (w : World) (vl : Value) (l : List Si) (hl : OldS w vl l) (hp : ∀ s ∈ l, s.p.length ≤ 140737488351232) (hc : CanB l) (ht : tot l ≤ 4194304) :
    Hid (∀ V, Nw w V → Calls Try.prog 18 #[vl] V fun e u1 => ∃ g1 c1, e = .returned (.slice (some ⟨g1, 0, none⟩) l.length c1) ∧ Hid (Calls Try.prog 19 #[.slice (some ⟨g1, 0, none⟩) l.length c1] u1 fun e u2 => ∃ a2 l2 c2, e = .returned (.tuple #[.slice a2 l2 c2, .int .i64 0]) ∧ Hid (Calls Try.prog 15 #[.slice a2 l2 c2] u2 fun e u3 => ∃ a3 l3 c3, ∃ z3 : Int, e = .returned (.tuple #[.slice a3 l3 c3, .int .i64 z3, .int .i64 0]) ∧ Hid (Calls Try.prog 17 #[.slice a3 l3 c3, vl] u3 fun e u4 => e = .returned (.bool true) ∧ Hid (Calls Try.prog 19 #[.slice (some ⟨u4.heap.size + 1, 0, none⟩) 1 1] ((u4.alloc (.cells #[.int .u8 97, .int .u8 98] 5 (2, 3))).alloc (.cells #[.slice (some ⟨u4.heap.size, 0, none⟩) 2 2, .int .i64 0, .int .i64 0] 36)) fun e w9 => ∃ a9 c9, e = .returned (.tuple #[.slice a9 3 c9, .int .i64 0]) ∧ Hid (Nw w w9)))))) := by
  intro V hV
  obtain ⟨ms, p, hsq, hcs⟩ := canB_split l hc
  have hlen := mkI_len hc ht
  have hmk : mkI l = mk ms p := by rw [hsq]; exact mkI_sqs ms p hcs
  have hsV := hV.size
  refine (copies_any V vl l ((hl.nw hV).mono (fun k hk => by omega)) hp).mono ?_
  rintro e u1 ⟨g1, c1, rfl, hS1, hN1⟩
  refine ⟨g1, c1, rfl, ?_⟩
  show Calls _ _ _ _ _
  refine (lzMake_any u1 _ l (hS1.mono (fun k hk => .inr hk))).mono ?_
  rw [mkR_ok hc ht]
  rintro e u2 ⟨a2, c2, rfl, hM2, hN2⟩
  refine ⟨a2, _, c2, rfl, ?_⟩
  show Calls _ _ _ _ _
  refine (parse_any u2 _ (mkI l) hM2.old hlen).mono ?_
  have hpar : parse (mkI l) = (ms ++ [⟨p, 0, 0⟩], 0, 0) := by
    rw [hmk]
    obtain ⟨s, h1, h2⟩ := parse_mk (mk ms p).length ms p hcs [] ⟨[], 0, 0⟩ 0
    unfold parse
    rw [h1]
    simp only
    rw [h2]
    simp
  rw [hpar]
  rintro e u3 ⟨a3, c3, gs, qs, rfl, hS3, hN3⟩
  refine ⟨a3, _, c3, _, rfl, ?_⟩
  rw [hmk] at hlen
  obtain ⟨b1, b2⟩ := sqs_p ms p _ hlen
  have hR3 := hS3.toR (Nat.le_trans b1 (by decide)) (fun s hs => by have := b2 s hs; omega)
  rw [sqs_map, ← hsq] at hR3
  have hw3 : Nw w u3 := ((hV.trans hN1).trans hN2).trans hN3
  show Calls _ _ _ _ _
  refine (seqs_two u3 _ _ _ _ l hR3 (hl.nw hw3)).mono ?_
  rintro e u4 ⟨rfl, hN4⟩
  exact ⟨rfl, one_tail w u4 (hw3.trans hN4)⟩
set_option maxHeartbeats 4000000 in
/-- From copies on, where it can't be made. -/
theorem tail_no (w : World) (vl : Value) (l : List Si) (hl : OldS w vl l) (hp : ∀ s ∈ l, s.p.length ≤ 140737488351232) (y : Nat) (hy : mkR l = ([], y)) (hy0 : y ≠ 0) :
    Hid (∀ V, Nw w V → Calls Try.prog 18 #[vl] V fun e u1 => ∃ g1 c1, e = .returned (.slice (some ⟨g1, 0, none⟩) l.length c1) ∧ Hid (Calls Try.prog 19 #[.slice (some ⟨g1, 0, none⟩) l.length c1] u1 fun e u2 => ∃ a2 l2 c2, e = .returned (.tuple #[.slice a2 l2 c2, .int .i64 y]) ∧ Hid (Calls Try.prog 19 #[.slice (some ⟨u2.heap.size + 1, 0, none⟩) 1 1] ((u2.alloc (.cells #[.int .u8 97, .int .u8 98] 5 (2, 3))).alloc (.cells #[.slice (some ⟨u2.heap.size, 0, none⟩) 2 2, .int .i64 0, .int .i64 0] 36)) fun e w9 => ∃ a9 c9, e = .returned (.tuple #[.slice a9 3 c9, .int .i64 0]) ∧ Hid (Nw w w9)))) := by
  intro V hV
  have hsV := hV.size
  refine (copies_any V vl l ((hl.nw hV).mono (fun k hk => by omega)) hp).mono ?_
  rintro e u1 ⟨g1, c1, rfl, hS1, hN1⟩
  refine ⟨g1, c1, rfl, ?_⟩
  show Calls _ _ _ _ _
  refine (lzMake_any u1 _ l (hS1.mono (fun k hk => .inr hk))).mono ?_
  rw [hy]
  rintro e u2 ⟨a2, c2, rfl, hM2, hN2⟩
  exact ⟨a2, _, c2, rfl, one_tail w u2 ((hV.trans hN1).trans hN2)⟩
end Go.Proofs.Ytpnacppmdlnjlaa
