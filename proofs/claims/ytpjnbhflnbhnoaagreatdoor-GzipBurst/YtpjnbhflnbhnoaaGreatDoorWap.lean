import Derived.Test.YtpjnbhflnbhnoaaGreatDoorWaj
namespace Go.Proofs.YtpjnbhflnbhnoaaGreatDoor
open Go.RowKit
set_option linter.unusedVariables false
variable {T : Nat} {K : Nat → Prop} {rb : Nat} {v : Value} {b : List By} {p : Nat} {w : World}
/-- What Take answers of N bits of V from p on: the number, the error, the place. -/
def takeF (N V p : Nat) (n : Int) : Nat × Nat × Nat := if n < 0 ∨ 32 < n then (0, 1, p) else if ((N - p : Nat) : Int) < n then (0, 50, p) else (V / 2 ^ p % 2 ^ n.toNat, 0, p + n.toNat)
/-- What Bytes answers. -/
def bytesF (N V p : Nat) (n : Int) : List By × Nat × Nat := if n < 0 then ([], 1, up8 p) else if (((N - up8 p) / 8 : Nat) : Int) < n then ([], 50, up8 p) else (lows (V / 2 ^ up8 p) n.toNat, 0, up8 p + 8 * n.toNat)
/-- A reader's answer: a value and an error; it stands at p' then. -/
def Tkn (T : Nat) (K : Nat → Prop) (rb : Nat) (v : Value) (b : List By) (w : World) (r : Nat × Nat × Nat) (e : Ending) (w' : World) : Prop :=
  e = .returned (.tuple #[.int .u32 r.1, .int .i64 r.2.1]) ∧ Rr T K rb v b r.2.2 w' ∧ Fr (fun k => k = rb) w w'
set_option maxHeartbeats 8000000 in
theorem btake_any (h : Rr 181 K rb v b p w) (hp : p ≤ 8 * b.length) (n : Int) : Calls Tryz.prog 87 #[.pointer (some ⟨rb, 0, none⟩), .int .i64 n] w (Tkn 181 K rb v b w (takeF (8 * b.length) (le b) p n)) := by
  obtain ⟨P, hP⟩ : ∃ P, P = Tkn 181 K rb v b w (takeF (8 * b.length) (le b) p n) := ⟨_, rfl⟩
  rw [← hP]
  have hbl := h.bl
  by_cases h1 : n < 0
  · have HF : Hid (P (.returned (.tuple #[.int .u32 0, .int .i64 1])) w) := by
      show P _ _
      rw [hP, takeF, if_pos (.inl h1)]; exact ⟨rfl, h, Fr.refl _ _⟩
    clear hP h
    go_enter Tryz.func87, Tryz.ntmps87
    go_wp2
    exact HF.out
  by_cases h2 : 32 < n
  · have HF : Hid (P (.returned (.tuple #[.int .u32 0, .int .i64 1])) w) := by
      show P _ _
      rw [hP, takeF, if_pos (.inr h2)]; exact ⟨rfl, h, Fr.refl _ _⟩
    clear hP h
    have h1' : ¬ n < 0 := h1
    go_enter Tryz.func87, Tryz.ntmps87
    go_wp2
    exact HF.out
  have hleft := left_any h hp
  obtain ⟨q, hq⟩ : ∃ q, q = 8 * b.length - p := ⟨_, rfl⟩
  rw [← hq] at hleft
  have HL : Hid (Calls Tryz.prog 128 #[.pointer (some ⟨rb, 0, none⟩)] w fun e w' => e = .returned (.int .i64 q) ∧ Hid (Nw w w')) := hleft
  by_cases h3 : (q : Int) < n
  · have HF : Hid (∀ V, Nw w V → P (.returned (.tuple #[.int .u32 0, .int .i64 50])) V) := by
      intro V hV
      rw [hP, takeF, if_neg (by omega), ← hq, if_pos h3]; exact ⟨rfl, h.nw hV, hV.any⟩
    clear hP h hleft hq
    go_enter Tryz.func87, Tryz.ntmps87
    go_wp2_with (first | (go_at_call 128; (with_reducible refine HL.out.mono ?_); rintro e w1 ⟨rfl, HN⟩))
    exact HF.out _ HN.out
  · obtain ⟨m, rfl⟩ : ∃ m : Nat, n = m := ⟨n.toNat, by omega⟩
    have hm : m ≤ 32 := by omega
    obtain ⟨x, hx⟩ : ∃ x, x = le b / 2 ^ p % 2 ^ m := ⟨_, rfl⟩
    have HA : Hid (∀ V, Nw w V → Calls Tryz.prog 129 #[.pointer (some ⟨rb, 0, none⟩), .int .i64 m] V fun e w' => e = .returned (.int .u32 x) ∧ w'.cell? ⟨rb, 1, none⟩ = some (.int .i64 p) ∧ w'.frozen? ⟨rb, 1, none⟩ = false ∧ Hid (P (.returned (.tuple #[.int .u32 x, .int .i64 0])) (w'.setCell ⟨rb, 1, none⟩ (.int .i64 ((p : Int) + (m : Int)))))) := by
      intro V hV
      refine (bahead_any (h.nw hV) hp m hm).mono ?_
      rintro e w' ⟨rfl, hN⟩
      have h' := (h.nw hV).nw hN
      refine ⟨by rw [hx], h'.cells.2.1, h'.cells.2.2, ?_⟩
      show P _ _
      rw [hP, takeF, if_neg (by omega), ← hq, if_neg h3, Int.toNat_natCast, ← hx]
      obtain ⟨k1, k2⟩ := h'.go (p + m) ((p : Int) + (m : Int)) (by omega)
      exact ⟨rfl, k1, (hV.trans hN).any.trans k2⟩
    clear hP h hleft hq hx
    go_enter Tryz.func87, Tryz.ntmps87
    go_wp2_with (first | (go_at_call 128; (with_reducible refine HL.out.mono ?_); rintro e w1 ⟨rfl, HN⟩) | (go_at_call 129; (with_reducible refine (HA.out _ HN.out).mono ?_); rintro e w2 ⟨rfl, y0, y1, HF⟩))
    exact HF.out
set_option maxHeartbeats 8000000 in
theorem balign_any (h : Rr 181 K rb v b p w) (hp : p ≤ 8 * b.length) : Calls Tryz.prog 201 #[.pointer (some ⟨rb, 0, none⟩)] w fun e w' => (∃ r, e = .returned r) ∧ Rr 181 K rb v b (up8 p) w' ∧ Fr (fun k => k = rb) w w' := by
  obtain ⟨P, hP⟩ : ∃ P : Ending → World → Prop, P = fun e w' => (∃ r, e = .returned r) ∧ Rr 181 K rb v b (up8 p) w' ∧ Fr (fun k => k = rb) w w' := ⟨_, rfl⟩
  rw [← hP]
  have hbl := h.bl
  have HA : Hid (Calls Tryz.prog 141 #[.int .i64 p] w fun e w' => e = .returned (.int .i64 (up8 p)) ∧ w' = w) := aligned_any p (by omega) w
  have HF : Hid (∀ r, P (.returned r) (w.setCell ⟨rb, 1, none⟩ (.int .i64 (up8 p)))) := fun r => by rw [hP]; exact ⟨⟨_, rfl⟩, h.go (up8 p) _ rfl⟩
  obtain ⟨x0, x1, x2⟩ := h.cells
  clear hP h
  generalize up8 p = q at *
  go_enter Tryz.func201, Tryz.ntmps201
  go_wp2_with (first | (go_at_call 141; (with_reducible refine HA.out.mono ?_); rintro e w1 ⟨rfl, rfl⟩))
  go_end0
  exact HF.out _
set_option maxHeartbeats 8000000 in
set_option maxRecDepth 100000 in
theorem clone_any (w : World) (v : Value) (l : List By) (h : Sl (fun _ => False) v l w) (hl : l.length ≤ 200000000000000) :
    Calls Tryz.prog 52 #[v] w fun e w' => ∃ r, e = .returned r ∧ Mine (fun k => k < w.heap.size) r l w' ∧ Nw w w' := by
  obtain ⟨P, hP⟩ : ∃ P : Ending → World → Prop, P = fun e w' => ∃ r, e = .returned r ∧ Mine (fun k => k < w.heap.size) r l w' ∧ Nw w w' := ⟨_, rfl⟩
  rw [← hP]
  obtain ⟨a, c, rfl, _, _⟩ := h.form
  cases a with
  | none =>
    have hl0 : l = [] ∧ c = 0 := by
      rcases h with ⟨a, e, h2⟩ | ⟨g, _, o, c', e, _⟩
      · injection e with _ _ e3; exact ⟨h2, e3⟩
      · injection e with e1; cases e1
    obtain ⟨rfl, rfl⟩ := hl0
    have HF : Hid (P (.returned (.slice none 0 0)) w) := by
      show P _ _
      rw [hP]; exact ⟨_, rfl, .inl ⟨rfl, rfl⟩, Fr.refl _ _⟩
    have hnil : ∀ w, (binOp BinOp.eql 22 (.slice none 0 0) (.slice none 0 0)).run Tryz.prog w = .ok (.bool true) w := fun _ => by kernel_rfl
    clear hP h
    go_enter Tryz.func52, Tryz.ntmps52
    go_wp2
    exact HF.out
  | some ad =>
    obtain ⟨v2, g', W, hap, hO, hF, hg'⟩ := app_any (w.alloc (.cells #[] 5)) w.heap.size _ [] (Ow.empty w) _ l (h.nw ((Fr.refl _ _).alloc _)) (by simp; omega)
    rw [List.nil_append] at hO
    have HF : Hid (P (.returned v2) W) := by
      show P _ _
      rw [hP]
      refine ⟨_, rfl, .inr ⟨g', ?_, hO⟩, Fr.then ((Fr.refl _ _).alloc _) hF (fun i hi => .inr (by omega))⟩
      rcases hg' with h | h
      · omega
      · simp at h; omega
    have HAP : Hid (∀ ty, (Builtin.append_ #[22, 22] ty #[.slice (some ⟨w.heap.size, 0, none⟩) 0 0, .slice (some ad) l.length c]).run Tryz.prog (w.alloc (.cells #[] 5)) = .ok v2 W) := hap
    clear hap hO hF hg' hP h
    generalize l.length = pn at *
    have hnil : ∀ w, (binOp BinOp.eql 22 (.slice (some ad) pn c) (.slice none 0 0)).run Tryz.prog w = .ok (.bool false) w := fun _ => by kernel_rfl
    go_enter Tryz.func52, Tryz.ntmps52
    go_wp2_with (first
      | (at_builtin; refine Lib.wpList_append_run _ rfl _ _ 22 22 rfl (.slice (some ⟨w.heap.size, 0, none⟩) 0 0) (.slice (some ad) pn c) (by simp [Act.eval]) (by simp [Act.eval]) _ _ (HAP.out _) ?_))
    exact HF.out
set_option maxHeartbeats 8000000 in
theorem newReader_any (w : World) (K : Nat → Prop) (v : Value) (b : List By) (h : Sl K v b w) (hK : K w.heap.size) (hbl : b.length ≤ 200000000000000) : Calls Tryz.prog 86 #[v] w fun e w' => e = .returned (.pointer (some ⟨w.heap.size, 0, none⟩)) ∧ Rr 181 K w.heap.size v b 0 w' ∧ Nw w w' := by
  obtain ⟨P, hP⟩ : ∃ P : Ending → World → Prop, P = fun e w' => e = .returned (.pointer (some ⟨w.heap.size, 0, none⟩)) ∧ Rr 181 K w.heap.size v b 0 w' ∧ Nw w w' := ⟨_, rfl⟩
  rw [← hP]
  obtain ⟨a, c, rfl, _, _⟩ := h.form
  have HF : Hid (P (.returned (.pointer (some ⟨w.heap.size, 0, none⟩))) (w.alloc (.cells #[.slice a b.length c, .int .i64 0] 181))) := by
    show P _ _
    rw [hP]
    exact ⟨rfl, ⟨new_heap _ _, h.nw ((Fr.refl _ _).alloc _), hK, hbl⟩, (Fr.refl _ _).alloc _⟩
  clear hP h hK
  generalize b.length = L at *
  go_enter Tryz.func86, Tryz.ntmps86
  go_wp2
  exact HF.out
end Go.Proofs.YtpjnbhflnbhnoaaGreatDoor

namespace Go.Proofs.YtpjnbhflnbhnoaaGreatDoor
open Go.RowKit
set_option linter.unusedVariables false
variable {T : Nat} {K : Nat → Prop} {rb : Nat} {v : Value} {b : List By} {p : Nat} {w : World}
/-- Bytes' answer: bytes of the call's own (or nil) and an error. -/
def Byd (T : Nat) (K : Nat → Prop) (rb : Nat) (v : Value) (b : List By) (w : World) (r : List By × Nat × Nat) (e : Ending) (w' : World) : Prop :=
  ∃ x, e = .returned (.tuple #[x, .int .i64 r.2.1]) ∧ Mine (fun k => k < w.heap.size) x r.1 w' ∧ Rr T K rb v b r.2.2 w' ∧ Fr (fun k => k = rb) w w'
theorem up8_le (p L : Nat) (h : p ≤ 8 * L) : up8 p ≤ 8 * L ∧ up8 p % 8 = 0 ∧ p ≤ up8 p := by unfold up8; omega
theorem lows_tk (b : List By) (f n : Nat) (h : f + n ≤ b.length) : (b.drop f).take n = lows (le b / 2 ^ (8 * f)) n := by
  apply le_inj
  · rw [lows_length, List.length_take, List.length_drop]; omega
  · rw [le_lows, le_take, le_drop, pow256]
/-- A slice of the bytes that are read. -/
theorem Rr.cut (h : Rr T K rb v b p w) (a : Option Addr) (c f n : Nat) (hv : v = .slice a b.length c) (hf : f + n ≤ b.length) : (c = f → ∀ a2, Sl (fun _ => False) (.slice a2 0 0) ((b.drop f).take n) w) ∧ ∀ g o, a = some ⟨g, o, none⟩ → Sl (fun _ => False) (.slice (some ⟨g, o + f, none⟩) n (c - f)) ((b.drop f).take n) w := by
  have hlen : ((b.drop f).take n).length = n := by rw [List.length_take, List.length_drop]; omega
  obtain ⟨a', c', e, h1, h2, hi, _⟩ := h.form
  rw [hv] at e
  injection e with e1 _ e3
  subst e1 e3
  constructor
  · intro hc a2
    exact .inl ⟨a2, rfl, List.eq_nil_of_length_eq_zero (by omega)⟩
  · intro g o ha
    refine .inr ⟨g, fun h => h, o + f, c - f, by rw [hlen], by omega, by omega, ?_⟩
    by_cases hb : b = []
    · subst hb; intro j hj; simp at hj
    · obtain ⟨g', o', e, hr⟩ := hi.2.2.2 hb
      rw [ha] at e
      injection e with e
      injection e with e1 e2
      subst e1 e2
      exact (hr.drop f).take n
set_option maxHeartbeats 8000000 in
set_option maxRecDepth 100000 in
theorem bbytes_any (h : Rr 181 K rb v b p w) (hp : p ≤ 8 * b.length) (n : Int) (hn : n < 9223372036854775808) : Calls Tryz.prog 187 #[.pointer (some ⟨rb, 0, none⟩), .int .i64 n] w (Byd 181 K rb v b w (bytesF (8 * b.length) (le b) p n)) := by
  obtain ⟨P, hP⟩ : ∃ P, P = Byd 181 K rb v b w (bytesF (8 * b.length) (le b) p n) := ⟨_, rfl⟩
  rw [← hP]
  have hbl := h.bl
  obtain ⟨hu1, hu2, _⟩ := up8_le p b.length hp
  have hlt := h.lt
  have HB : Hid (∀ e w1, (∃ r, e = Ending.returned r) ∧ Rr 181 K rb v b (up8 p) w1 ∧ Fr (fun k => k = rb) w w1 → P = Byd 181 K rb v b w (bytesF (8 * b.length) (le b) p n)) := fun _ _ _ => hP
  obtain ⟨q, hq⟩ : ∃ q, q = (8 * b.length - up8 p) := ⟨_, rfl⟩
  obtain ⟨u, hu⟩ : ∃ u, u = up8 p := ⟨_, rfl⟩
  rw [← hu] at hu1 hu2 hq
  have HC : Hid (Calls Tryz.prog 201 #[.pointer (some ⟨rb, 0, none⟩)] w fun e w1 => (∃ r, e = .returned r) ∧ Hid (Rr 181 K rb v b u w1 ∧ Fr (fun k => k = rb) w w1)) := (balign_any h hp).mono fun e w1 ⟨h1, h2, h3⟩ => ⟨h1, by rw [hu]; exact h2, h3⟩
  by_cases h1 : n < 0
  · have HF : Hid (∀ w1, Rr 181 K rb v b u w1 ∧ Fr (fun k => k = rb) w w1 → P (.returned (.tuple #[.slice none 0 0, .int .i64 1])) w1) := by
      rintro w1 ⟨k1, k2⟩
      rw [hP, bytesF, if_pos h1, ← hu]; exact ⟨_, rfl, .inl ⟨rfl, rfl⟩, k1, k2⟩
    clear hP h HB hu
    go_enter Tryz.func187, Tryz.ntmps187
    go_wp2_with (first | (go_at_call 201; (with_reducible refine HC.out.mono ?_); rintro e w1 ⟨⟨r, rfl⟩, H1⟩))
    exact HF.out _ H1.out
  have HL : Hid (∀ w1, Rr 181 K rb v b u w1 → Calls Tryz.prog 128 #[.pointer (some ⟨rb, 0, none⟩)] w1 fun e w2 => e = .returned (.int .i64 q) ∧ Hid (Nw w1 w2)) := fun w1 k1 => by rw [hq]; exact left_any k1 hu1
  have hqd : (q : Int) / 8 = ((q / 8 : Nat) : Int) := by omega
  obtain ⟨m, hm⟩ : ∃ m, m = q / 8 := ⟨_, rfl⟩
  rw [← hm] at hqd
  by_cases h2 : (m : Int) < n
  · have HF : Hid (∀ w1 w2, Rr 181 K rb v b u w1 ∧ Fr (fun k => k = rb) w w1 → Nw w1 w2 → P (.returned (.tuple #[.slice none 0 0, .int .i64 50])) w2) := by
      rintro w1 w2 ⟨k1, k2⟩ k3
      rw [hP, bytesF, if_neg h1, ← hu, ← hq, ← hm, if_pos h2]; exact ⟨_, rfl, .inl ⟨rfl, rfl⟩, k1.nw k3, k2.trans k3.any⟩
    clear hP h HB hu hq hm
    go_enter Tryz.func187, Tryz.ntmps187
    go_wp2_with (first | (go_at_call 201; (with_reducible refine HC.out.mono ?_); rintro e w1 ⟨⟨r, rfl⟩, H1⟩) | (go_at_call 128; (with_reducible refine (HL.out _ H1.out.1).mono ?_); rintro e w2 ⟨rfl, H2⟩))
    exact HF.out _ _ H1.out H2.out
  · obtain ⟨k, rfl⟩ : ∃ k : Nat, n = k := ⟨n.toNat, by omega⟩
    obtain ⟨f, hf⟩ : ∃ f, f = u / 8 := ⟨_, rfl⟩
    obtain ⟨a, c, hv, hc1, hc2, hi, hca⟩ := h.form
    have hfk : f + k ≤ b.length := by omega
    have hfd : (u : Int) / 8 = (f : Int) := by omega
    obtain ⟨t, ht⟩ : ∃ t, t = f + k := ⟨_, rfl⟩
    have htt : (f : Int) + (k : Int) = (t : Int) := by omega
    have htk : t - f = k := by omega
    obtain ⟨s, hs⟩ : ∃ s, s = u + 8 * k := ⟨_, rfl⟩
    have hss : (u : Int) + 8 * (k : Int) = (s : Int) := by omega
    have HQ : Hid (∀ w1 w2, Rr 181 K rb v b u w1 ∧ Fr (fun k => k = rb) w w1 → Nw w1 w2 → w2.cell? ⟨rb, 1, none⟩ = some (.int .i64 u) ∧ w2.frozen? ⟨rb, 1, none⟩ = false ∧ w2.cell? ⟨rb, 0, none⟩ = some v) := by
      rintro w1 w2 ⟨k1, k2⟩ k3
      obtain ⟨x0, x1, x2⟩ := (k1.nw k3).cells
      exact ⟨x1, x2, x0⟩
    have HQ2 : Hid (∀ w1 w2, Rr 181 K rb v b u w1 ∧ Fr (fun k => k = rb) w w1 → Nw w1 w2 → Rr 181 K rb v b s (w2.setCell ⟨rb, 1, none⟩ (.int .i64 s)) ∧ Fr (fun k => k = rb) w (w2.setCell ⟨rb, 1, none⟩ (.int .i64 s))) := by
      rintro w1 w2 ⟨k1, k2⟩ k3
      obtain ⟨y1, y2⟩ := (k1.nw k3).go s s rfl
      exact ⟨y1, (k2.trans k3.any).trans y2⟩
    have HQ3 : Hid (∀ W vs, Rr 181 K rb v b s W ∧ Fr (fun k => k = rb) w W → (c = f ∧ (∃ a2, vs = .slice a2 k 0) ∨ ∃ g o, a = some ⟨g, o, none⟩ ∧ vs = .slice (some ⟨g, o + f, none⟩) k (c - f)) → W.cell? ⟨rb, 0, none⟩ = some v ∧ W.cell? ⟨rb, 1, none⟩ = some (.int .i64 s) ∧ Calls Tryz.prog 52 #[vs] W fun e w' => ∃ x, e = .returned x ∧ Hid (P (.returned (.tuple #[x, .int .i64 0])) w')) := by
      rintro W vs ⟨k1, k2⟩ hvs
      obtain ⟨x0, x1, x2⟩ := k1.cells
      refine ⟨x0, x1, ?_⟩
      obtain ⟨c1, c2⟩ := k1.cut a c f k hv hfk
      have hsl : Sl (fun _ => False) vs ((b.drop f).take k) W := by
        rcases hvs with ⟨hc, a2, rfl⟩ | ⟨g, o, ha, rfl⟩
        · obtain rfl : k = 0 := by omega
          exact c1 hc a2
        · exact c2 g o ha
      refine (clone_any W vs _ hsl (by rw [List.length_take, List.length_drop]; omega)).mono ?_
      rintro e w' ⟨x, rfl, hM, hN⟩
      refine ⟨x, rfl, ?_⟩
      show P _ _
      rw [hP, bytesF, if_neg h1, ← hu, ← hq, ← hm, if_neg h2, Int.toNat_natCast, ← hs]
      refine ⟨x, rfl, ?_, k1.nw hN, k2.trans hN.any⟩
      show Mine _ x (lows (le b / 2 ^ u) k) w'
      rw [show u = 8 * f by omega, ← lows_tk b f k hfk]
      exact hM.more (fun g hg => .inl (Nat.lt_of_lt_of_le hg k2.size))
    have hqb : q ≤ 1600000000000000 := by omega
    clear hP h HB hu hq hm hi
    subst hv
    have hz1 : (t : Int) ≤ (c : Int) := by omega
    have hz2 : (f : Int) ≤ (t : Int) := by omega
    have hkb : k ≤ 200000000000000 := by omega
    have hub : u ≤ 1600000000000000 := by omega
    clear ht hs hf hn hp hu1 hu2 hlt hfk
    go_enter Tryz.func187, Tryz.ntmps187
    go_upto_region 6 with (first | (go_at_call 201; (with_reducible refine HC.out.mono ?_); rintro e w1 ⟨⟨r, rfl⟩, H1⟩) | (go_at_call 128; (with_reducible refine (HL.out _ H1.out.1).mono ?_); rintro e w2 ⟨rfl, H2⟩))
    obtain ⟨x0, x1, x2⟩ := HQ.out _ _ H1.out H2.out
    have hW := HQ2.out _ _ H1.out H2.out
    have HW : Hid (Rr 181 K rb (.slice a b.length c) b s (w2.setCell ⟨rb, 1, none⟩ (.int .i64 s)) ∧ Fr (fun k => k = rb) w (w2.setCell ⟨rb, 1, none⟩ (.int .i64 s))) := hW
    clear hW HC HL HQ HQ2 H1 H2
    go_upto_region 8 with fail
    have HW2 := HW.out
    obtain ⟨W, hW⟩ : ∃ W, W = w2.setCell ⟨rb, 1, none⟩ (.int .i64 s) := ⟨_, rfl⟩
    rw [← hW] at HW2 ⊢
    have HG : Hid (Rr 181 K rb (.slice a b.length c) b s W ∧ Fr (fun k => k = rb) w W) := HW2
    clear HW HW2 hW x0 x1 x2
    by_cases hcf : c = f
    · have HC := HQ3.out W
      have HC1 : Hid (∀ a2, Calls Tryz.prog 52 #[.slice a2 k 0] W fun e w' => ∃ x, e = .returned x ∧ Hid (P (.returned (.tuple #[x, .int .i64 0])) w')) := fun a2 => (HC _ HG.out (.inl ⟨hcf, a2, rfl⟩)).2.2
      obtain ⟨x0, x1, _⟩ := HC (.slice none k 0) HG.out (.inl ⟨hcf, none, rfl⟩)
      clear HC HQ3 HG
      generalize b.length = L at *
      go_wp2_with (first | (go_at_call 52; (with_reducible refine (HC1.out _).mono ?_); rintro e w3 ⟨x, rfl, HF⟩))
      exact HF.out
    · rcases hca with hc0 | ⟨g, o, rfl⟩
      · omega
      · have HC := HQ3.out W
        have HC1 : Hid (Calls Tryz.prog 52 #[.slice (some ⟨g, o + f, none⟩) k (c - f)] W fun e w' => ∃ x, e = .returned x ∧ Hid (P (.returned (.tuple #[x, .int .i64 0])) w')) := (HC _ HG.out (.inr ⟨g, o, rfl, rfl⟩)).2.2
        obtain ⟨x0, x1, _⟩ := HC _ HG.out (.inr ⟨g, o, rfl, rfl⟩)
        clear HC HQ3 HG
        generalize b.length = L at *
        go_wp2_with (first | (go_at_call 52; (with_reducible refine HC1.out.mono ?_); rintro e w3 ⟨x, rfl, HF⟩))
        exact HF.out
end Go.Proofs.YtpjnbhflnbhnoaaGreatDoor
