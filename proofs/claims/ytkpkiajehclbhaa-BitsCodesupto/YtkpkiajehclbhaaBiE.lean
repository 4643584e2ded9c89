import Derived.Test.YtkpkiajehclbhaaBiD
namespace Go.Proofs.Ytkpkiajehclbhaa
open Go.RowKit
set_option linter.unusedVariables false
variable {T : Nat} {K : Nat → Prop} {rb : Nat} {v : Value} {b : List By} {p : Nat} {w : World}
/-- What Take answers of N bits of V from p on: the number, the error, the place. -/
def takeF (N V p : Nat) (n : Int) : Nat × Nat × Nat := if n < 0 ∨ 32 < n then (0, 1, p) else if ((N - p : Nat) : Int) < n then (0, 50, p) else (V / 2 ^ p % 2 ^ n.toNat, 0, p + n.toNat)
/-- What Bytes answers. -/
def bytesF (N V p : Nat) (n : Int) : List By × Nat × Nat := if n < 0 then ([], 1, up8 p) else if (((N - up8 p) / 8 : Nat) : Int) < n then ([], 50, up8 p) else (lows (V / 2 ^ up8 p) n.toNat, 0, up8 p + 8 * n.toNat)
/-- A reader's answer: a value and an error; it stands at p' then. -/
def Tkn (T : Nat) (K : Nat → Prop) (rb : Nat) (v : Value) (b : List By) (w : World) (r : Nat × Nat × Nat) (e : Ending) (w' : World) : Prop :=
  e = .returned (.tuple #[.int .u32 r.1, .int .i64 r.2.1]) ∧ Rr T K rb v b r.2.2 w' ∧ Fr (fun k => k = rb) w w'
set_option maxHeartbeats 8000000 in
theorem btake_any (h : Rr 82 K rb v b p w) (hp : p ≤ 8 * b.length) (n : Int) : Calls Try.prog 12 #[.pointer (some ⟨rb, 0, none⟩), .int .i64 n] w (Tkn 82 K rb v b w (takeF (8 * b.length) (le b) p n)) := by
  obtain ⟨P, hP⟩ : ∃ P, P = Tkn 82 K rb v b w (takeF (8 * b.length) (le b) p n) := ⟨_, rfl⟩
  rw [← hP]
  have hbl := h.bl
  by_cases h1 : n < 0
  · have HF : Hid (P (.returned (.tuple #[.int .u32 0, .int .i64 1])) w) := by
      show P _ _
      rw [hP, takeF, if_pos (.inl h1)]; exact ⟨rfl, h, Fr.refl _ _⟩
    clear hP h
    go_enter Try.func12, Try.ntmps12
    go_wp2
    exact HF.out
  by_cases h2 : 32 < n
  · have HF : Hid (P (.returned (.tuple #[.int .u32 0, .int .i64 1])) w) := by
      show P _ _
      rw [hP, takeF, if_pos (.inr h2)]; exact ⟨rfl, h, Fr.refl _ _⟩
    clear hP h
    have h1' : ¬ n < 0 := h1
    go_enter Try.func12, Try.ntmps12
    go_wp2
    exact HF.out
  have hleft := left_any h hp
  obtain ⟨q, hq⟩ : ∃ q, q = 8 * b.length - p := ⟨_, rfl⟩
  rw [← hq] at hleft
  have HL : Hid (Calls Try.prog 20 #[.pointer (some ⟨rb, 0, none⟩)] w fun e w' => e = .returned (.int .i64 q) ∧ Hid (Nw w w')) := hleft
  by_cases h3 : (q : Int) < n
  · have HF : Hid (∀ V, Nw w V → P (.returned (.tuple #[.int .u32 0, .int .i64 50])) V) := by
      intro V hV
      rw [hP, takeF, if_neg (by omega), ← hq, if_pos h3]; exact ⟨rfl, h.nw hV, hV.any⟩
    clear hP h hleft hq
    go_enter Try.func12, Try.ntmps12
    go_wp2_with (first | (go_at_call 20; (with_reducible refine HL.out.mono ?_); rintro e w1 ⟨rfl, HN⟩))
    exact HF.out _ HN.out
  · obtain ⟨m, rfl⟩ : ∃ m : Nat, n = m := ⟨n.toNat, by omega⟩
    have hm : m ≤ 32 := by omega
    obtain ⟨x, hx⟩ : ∃ x, x = le b / 2 ^ p % 2 ^ m := ⟨_, rfl⟩
    have HA : Hid (∀ V, Nw w V → Calls Try.prog 43 #[.pointer (some ⟨rb, 0, none⟩), .int .i64 m] V fun e w' => e = .returned (.int .u32 x) ∧ w'.cell? ⟨rb, 1, none⟩ = some (.int .i64 p) ∧ w'.frozen? ⟨rb, 1, none⟩ = false ∧ Hid (P (.returned (.tuple #[.int .u32 x, .int .i64 0])) (w'.setCell ⟨rb, 1, none⟩ (.int .i64 ((p : Int) + (m : Int)))))) := by
      intro V hV
      refine (bahead_any (h.nw hV) hp m hm).mono ?_
      rintro e w' ⟨rfl, hN⟩
      have h' := (h.nw hV).nw hN
      refine ⟨by rw [hx], h'.cells.2.1, h'.cells.2.2, ?_⟩
      show P _ _
      rw [hP, takeF, if_neg (by omega), ← hq, if_neg h3, Int.toNat_natCast, ← hx]
      obtain ⟨k1, k2⟩ := h'.go (p + m) ((p : Int) + (m : Int)) (by omega)
      exact ⟨rfl, k1, (hV.trans hN).any.trans k2⟩
    clear hP h hleft hq hx
    go_enter Try.func12, Try.ntmps12
    go_wp2_with (first | (go_at_call 20; (with_reducible refine HL.out.mono ?_); rintro e w1 ⟨rfl, HN⟩) | (go_at_call 43; (with_reducible refine (HA.out _ HN.out).mono ?_); rintro e w2 ⟨rfl, y0, y1, HF⟩))
    exact HF.out
set_option maxHeartbeats 8000000 in
theorem balign_any (h : Rr 82 K rb v b p w) (hp : p ≤ 8 * b.length) : Calls Try.prog 14 #[.pointer (some ⟨rb, 0, none⟩)] w fun e w' => (∃ r, e = .returned r) ∧ Rr 82 K rb v b (up8 p) w' ∧ Fr (fun k => k = rb) w w' := by
  obtain ⟨P, hP⟩ : ∃ P : Ending → World → Prop, P = fun e w' => (∃ r, e = .returned r) ∧ Rr 82 K rb v b (up8 p) w' ∧ Fr (fun k => k = rb) w w' := ⟨_, rfl⟩
  rw [← hP]
  have hbl := h.bl
  have HA : Hid (Calls Try.prog 44 #[.int .i64 p] w fun e w' => e = .returned (.int .i64 (up8 p)) ∧ w' = w) := aligned_any p (by omega) w
  have HF : Hid (∀ r, P (.returned r) (w.setCell ⟨rb, 1, none⟩ (.int .i64 (up8 p)))) := fun r => by rw [hP]; exact ⟨⟨_, rfl⟩, h.go (up8 p) _ rfl⟩
  obtain ⟨x0, x1, x2⟩ := h.cells
  clear hP h
  generalize up8 p = q at *
  go_enter Try.func14, Try.ntmps14
  go_wp2_with (first | (go_at_call 44; (with_reducible refine HA.out.mono ?_); rintro e w1 ⟨rfl, rfl⟩))
  go_end0
  exact HF.out _
set_option maxHeartbeats 8000000 in
set_option maxRecDepth 100000 in
theorem clone_any (w : World) (v : Value) (l : List By) (h : Sl (fun _ => False) v l w) (hl : l.length ≤ 140737488351232) :
    Calls Try.prog 45 #[v] w fun e w' => ∃ r, e = .returned r ∧ Mine (fun k => k < w.heap.size) r l w' ∧ Nw w w' := by
  obtain ⟨P, hP⟩ : ∃ P : Ending → World → Prop, P = fun e w' => ∃ r, e = .returned r ∧ Mine (fun k => k < w.heap.size) r l w' ∧ Nw w w' := ⟨_, rfl⟩
  rw [← hP]
  obtain ⟨a, c, rfl, _, _⟩ := h.form
  cases a with
  | none =>
    have hl0 : l = [] ∧ c = 0 := by
      rcases h with ⟨a, e, h2⟩ | ⟨g, _, o, c', e, _⟩
      · injection e with _ _ e3; exact ⟨h2, e3⟩
      · injection e with e1; cases e1
    obtain ⟨rfl, rfl⟩ := hl0
    have HF : Hid (P (.returned (.slice none 0 0)) w) := by
      show P _ _
      rw [hP]; exact ⟨_, rfl, .inl ⟨rfl, rfl⟩, Fr.refl _ _⟩
    have hnil : ∀ w, (binOp BinOp.eql 22 (.slice none 0 0) (.slice none 0 0)).run Try.prog w = .ok (.bool true) w := fun _ => by kernel_rfl
    clear hP h
    go_enter Try.func45, Try.ntmps45
    go_wp2
    exact HF.out
  | some ad =>
    obtain ⟨v2, g', W, hap, hO, hF, hg'⟩ := app_any (w.alloc (.cells #[] 5)) w.heap.size _ [] (Ow.empty w) _ l (h.nw ((Fr.refl _ _).alloc _)) (by simp; omega)
    rw [List.nil_append] at hO
    have HF : Hid (P (.returned v2) W) := by
      show P _ _
      rw [hP]
      refine ⟨_, rfl, .inr ⟨g', ?_, hO⟩, Fr.then ((Fr.refl _ _).alloc _) hF (fun i hi => .inr (by omega))⟩
      rcases hg' with h | h
      · omega
      · simp at h; omega
    have HAP : Hid (∀ ty, (Builtin.append_ #[22, 22] ty #[.slice (some ⟨w.heap.size, 0, none⟩) 0 0, .slice (some ad) l.length c]).run Try.prog (w.alloc (.cells #[] 5)) = .ok v2 W) := hap
    clear hap hO hF hg' hP h
    generalize l.length = pn at *
    have hnil : ∀ w, (binOp BinOp.eql 22 (.slice (some ad) pn c) (.slice none 0 0)).run Try.prog w = .ok (.bool false) w := fun _ => by kernel_rfl
    go_enter Try.func45, Try.ntmps45
    go_wp2_with (first
      | (at_builtin; refine Lib.wpList_append_run _ rfl _ _ 22 22 rfl (.slice (some ⟨w.heap.size, 0, none⟩) 0 0) (.slice (some ad) pn c) (by simp [Act.eval]) (by simp [Act.eval]) _ _ (HAP.out _) ?_))
    exact HF.out
set_option maxHeartbeats 8000000 in
theorem newReader_any (w : World) (K : Nat → Prop) (v : Value) (b : List By) (h : Sl K v b w) (hK : K w.heap.size) (hbl : b.length ≤ 35184372088832) : Calls Try.prog 10 #[v] w fun e w' => e = .returned (.pointer (some ⟨w.heap.size, 0, none⟩)) ∧ Rr 82 K w.heap.size v b 0 w' ∧ Nw w w' := by
  obtain ⟨P, hP⟩ : ∃ P : Ending → World → Prop, P = fun e w' => e = .returned (.pointer (some ⟨w.heap.size, 0, none⟩)) ∧ Rr 82 K w.heap.size v b 0 w' ∧ Nw w w' := ⟨_, rfl⟩
  rw [← hP]
  obtain ⟨a, c, rfl, _, _⟩ := h.form
  have HF : Hid (P (.returned (.pointer (some ⟨w.heap.size, 0, none⟩))) (w.alloc (.cells #[.slice a b.length c, .int .i64 0] 82))) := by
    show P _ _
    rw [hP]
    exact ⟨rfl, ⟨new_heap _ _, h.nw ((Fr.refl _ _).alloc _), hK, hbl⟩, (Fr.refl _ _).alloc _⟩
  clear hP h hK
  generalize b.length = L at *
  go_enter Try.func10, Try.ntmps10
  go_wp2
  exact HF.out
end Go.Proofs.Ytkpkiajehclbhaa
