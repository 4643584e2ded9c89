import Derived.Test.YtlfcgldbgejfbaaXxC
namespace Go.Proofs.Ytlfcgldbgejfbaa
open Go.RowKit
set_option linter.unusedVariables false

/-! ### A digest in memory -/
def dcells (tot : Nat) (rest : List By) (ext : List Value) : List Value := .int .u64 tot :: (rest.map bv ++ ext)
def DB (T g tot : Nat) (rest : List By) (ext : List Value) (w : World) : Prop := w.heap[g]? = some (.cells (dcells tot rest ext).toArray T)
def ext32 (s : BitVec 32) (x : La 32) : List Value := [.int .u32 s.toNat, .int .u32 x.a.toNat, .int .u32 x.b.toNat, .int .u32 x.c.toNat, .int .u32 x.d.toNat]
def ext64 (s : BitVec 64) (x : La 64) : List Value := [.int .u64 s.toNat, .int .u64 x.a.toNat, .int .u64 x.b.toNat, .int .u64 x.c.toNat, .int .u64 x.d.toNat]
theorem DB.lt {T g tot : Nat} {rest : List By} {ext : List Value} {w : World} (h : DB T g tot rest ext w) : g < w.heap.size := (Array.getElem?_eq_some_iff.1 h).1
theorem DB.kept {T g tot : Nat} {rest : List By} {ext : List Value} {w w' : World} {X : Nat → Prop} (h : DB T g tot rest ext w) (f : Fr X w w') (hx : ¬ X g) : DB T g tot rest ext w' := (f.block g h.lt hx).trans h
theorem DB.nw {T g tot : Nat} {rest : List By} {ext : List Value} {w w' : World} (h : DB T g tot rest ext w) (f : Nw w w') : DB T g tot rest ext w' := h.kept f (fun h => h)
theorem DB.cell {T g tot : Nat} {rest : List By} {ext : List Value} {w : World} (h : DB T g tot rest ext w) (j : Nat) (v : Value) (hv : (dcells tot rest ext)[j]? = some v) : w.cell? ⟨g, j, none⟩ = some v := by
  unfold DB at h
  simp [World.cell?, h, hv]
theorem DB.tot {T g tot : Nat} {rest : List By} {ext : List Value} {w : World} (h : DB T g tot rest ext w) : w.cell? ⟨g, 0, none⟩ = some (.int .u64 tot) := h.cell 0 _ rfl
theorem DB.rd {T g tot : Nat} {rest : List By} {ext : List Value} {w : World} (h : DB T g tot rest ext w) : Rd g 1 rest w := fun j hj => h.cell _ _ (by
  rw [Nat.add_comm]
  simp [dcells, List.getElem?_append_left, hj])
theorem DB.ext {T g tot : Nat} {rest : List By} {ext : List Value} {w : World} (h : DB T g tot rest ext w) (hr : rest.length = 32) (j : Nat) (v : Value) (hv : ext[j]? = some v) : w.cell? ⟨g, 33 + j, none⟩ = some v := h.cell _ _ (by
  rw [show 33 + j = (32 + j) + 1 by omega]
  simp only [dcells, List.getElem?_cons_succ]
  rw [List.getElem?_append_right (by simp; omega)]
  simp [hr, hv])
theorem held_any (T g tot : Nat) (rest : List By) (ext : List Value) (size : Nat) (hs : 0 < size) (hs2 : size < 1000) (ht : tot < 18446744073709551616) (w : World) (h : DB T g tot rest ext w) : Calls Try.prog 44 #[.pointer (some ⟨g, 0, none⟩), .int .i64 size] w fun e w' => e = .returned (.int .i64 ((tot % size : Nat) : Int)) ∧ Nw w w' := by
  have h0 := h.tot
  have hm : tot % size < size := Nat.mod_lt _ hs
  clear h
  go_enter Try.func44, Try.ntmps44
  go_wp2
  go_ret
  exact ⟨congrArg (fun z => Ending.returned (.int .i64 z)) (by simp), Fr.refl _ _⟩
set_option maxHeartbeats 4000000 in
theorem new32_any (s : BitVec 32) (z : Int) (hz : z = s.toNat) (w : World) : Calls Try.prog 13 #[.int .u32 z] w fun e w' => e = .returned (.pointer (some ⟨w.heap.size, 0, none⟩)) ∧ Nw w w' ∧ DB 66 w.heap.size 0 (List.replicate 32 0#8) (ext32 s (ini32 s)) w' ∧ w'.heap.size = w.heap.size + 1 := by
  subst hz
  have e1 : Hid (((ini32 s).a.toNat : Int) = ((s.toNat : Int) + 2654435761 + 2246822519) % 4294967296) := by show _ = _; rw [ini32, i_add32, i_add32]; simp
  have e2 : Hid (((ini32 s).b.toNat : Int) = ((s.toNat : Int) + 2246822519) % 4294967296) := by show _ = _; rw [ini32, i_add32]; rfl
  have e4 : Hid (((ini32 s).d.toNat : Int) = ((s.toNat : Int) - 2654435761) % 4294967296) := by show _ = _; rw [ini32, i_sub32]; rfl
  have e3 : Hid ((ini32 s).c = s) := rfl
  generalize ini32 s = I at *
  go_enter Try.func13, Try.ntmps13
  go_wp2
  go_ret
  refine ⟨rfl, (Fr.refl _ _).alloc _, ?_, by simp⟩
  show (w.heap.push _)[w.heap.size]? = _
  simp only [Array.getElem?_push_size, dcells, ext32, e1.out, e2.out, e4.out, e3.out]
  rfl
set_option maxHeartbeats 4000000 in
theorem new64_any (s : BitVec 64) (z : Int) (hz : z = s.toNat) (w : World) : Calls Try.prog 14 #[.int .u64 z] w fun e w' => e = .returned (.pointer (some ⟨w.heap.size, 0, none⟩)) ∧ Nw w w' ∧ DB 68 w.heap.size 0 (List.replicate 32 0#8) (ext64 s (ini64 s)) w' ∧ w'.heap.size = w.heap.size + 1 := by
  subst hz
  have e1 : Hid (((ini64 s).a.toNat : Int) = (((s.toNat : Int) + 11400714785074694791) % 18446744073709551616 + 14029467366897019727) % 18446744073709551616) := by show _ = _; rw [ini64, i_add64, i_add64]; rfl
  have e2 : Hid (((ini64 s).b.toNat : Int) = ((s.toNat : Int) + 14029467366897019727) % 18446744073709551616) := by show _ = _; rw [ini64, i_add64]; rfl
  have e4 : Hid (((ini64 s).d.toNat : Int) = ((s.toNat : Int) - 11400714785074694791) % 18446744073709551616) := by show _ = _; rw [ini64, i_sub64]; rfl
  have e3 : Hid ((ini64 s).c = s) := rfl
  generalize ini64 s = I at *
  go_enter Try.func14, Try.ntmps14
  go_wp2
  go_ret
  refine ⟨rfl, (Fr.refl _ _).alloc _, ?_, by simp⟩
  show (w.heap.push _)[w.heap.size]? = _
  simp only [Array.getElem?_push_size, dcells, ext64, e1.out, e2.out, e4.out, e3.out, IntKind.wrap_u64]
  rfl
theorem len32_any (g tot : Nat) (rest : List By) (ext : List Value) (w : World) (h : DB 66 g tot rest ext w) : Calls Try.prog 24 #[.pointer (some ⟨g, 0, none⟩)] w fun e w' => e = .returned (.int .u64 tot) ∧ Nw w w' := by
  have h0 := h.tot
  clear h
  go_enter Try.func24, Try.ntmps24
  go_wp2
  go_ret
  exact ⟨rfl, Fr.refl _ _⟩
theorem len64_any (g tot : Nat) (rest : List By) (ext : List Value) (w : World) (h : DB 68 g tot rest ext w) : Calls Try.prog 25 #[.pointer (some ⟨g, 0, none⟩)] w fun e w' => e = .returned (.int .u64 tot) ∧ Nw w w' := by
  have h0 := h.tot
  clear h
  go_enter Try.func25, Try.ntmps25
  go_wp2
  go_ret
  exact ⟨rfl, Fr.refl _ _⟩
set_option maxHeartbeats 4000000 in
set_option maxRecDepth 100000 in
theorem pieces_any (g : Nat) (v : Value) (l : List By) (size : Nat) (hs : 0 < size) (hs2 : size < 1000) (c : Nat) (eg : ∀ args w, (callFunc c args).run Try.prog w = .ok (.enter c args) w) (cap : Array Value) (w : World) (I : Nat → World → Prop)
    (h0 : I 0 w) (hst : ∀ k W, I k W → SlB g v l W)
    (step : ∀ k W u, I k W → (k + 1) * size ≤ l.length → SlB g u ((l.drop (k * size)).take size) W → Calls Try.prog c (#[u] ++ cap) W fun e w' => (∃ r, e = .returned r) ∧ I (k + 1) w') :
    Calls Try.prog 43 #[v, .int .i64 size, .func (.func c) #[] cap] w fun e w' => ∃ u, e = .returned u ∧ SlB g u (l.drop (l.length / size * size)) w' ∧ I (l.length / size) w' := by
  obtain ⟨o, cp, rfl, hcp, hcp2, hr⟩ := hst 0 w h0
  have hst : Hid (∀ k W, I k W → Rd g o l W) := by
    intro k W hk
    obtain ⟨o', cp', hv, _, _, hr'⟩ := hst k W hk
    injection hv with hv _ _
    injection hv with hv
    injection hv with _ hv
    subst hv; exact hr'
  have step : Hid (∀ k W u, I k W → (k + 1) * size ≤ l.length → SlB g u ((l.drop (k * size)).take size) W → Calls Try.prog c (#[u] ++ cap) W fun e w' => (∃ r, e = .returned r) ∧ I (k + 1) w') := step
  have FIN : Hid (∀ k W o' c', I k W → k * size ≤ l.length → l.length - k * size < size → l.length - k * size ≤ c' → c' < 9223372036854775808 → (l.length - k * size = 0 ∨ o' = o + k * size) → SlB g (.slice (some ⟨g, o', none⟩) (l.length - k * size) c') (l.drop (l.length / size * size)) W ∧ I (l.length / size) W) := by
    intro k W o' c' hk h1 h2 h3 h4 h5
    have e : l.length / size = k := by
      rw [Nat.div_eq_iff hs]; omega
    rw [e]
    refine ⟨⟨o', c', by simp, by simp; omega, h4, ?_⟩, hk⟩
    rcases h5 with h5 | h5
    · have : l.drop (k * size) = [] := by simp; omega
      rw [this]; exact Rd.nil _ _ _
    · rw [h5]; exact (hst.out k W hk).drop _
  clear hr
  go_enter Try.func43, Try.ntmps43
  go_wp2
  go_loopg [0] l.length (fun kx t0 wr => ∃ (k o' c' m : Nat), t0 = .slice (some ⟨g, o', none⟩) m c' ∧ m + k * size = l.length ∧ m ≤ kx ∧ m ≤ c' ∧ c' < 9223372036854775808 ∧ (m = 0 ∨ o' = o + k * size) ∧ I k wr)
  case atStart => exact ⟨0, o, cp, l.length, rfl, by omega, Nat.le_refl _, hcp, hcp2, .inr (by omega), h0⟩
  case round =>
    obtain ⟨k, o', c', m, rfl, hm, hkx, hmc, hc2, ho, hI⟩ := hrel
    by_cases hge : size ≤ m
    · have hz : (size : Int) ≤ (m : Int) := by omega
      have hz2 : (size : Int) ≤ (c' : Int) := by omega
      have hne : ¬ c' = 0 := by omega
      have ho : o' = o + k * size := by rcases ho with h | h; omega; exact h
      subst ho
      have HC : Hid (∀ u, SlB g u ((l.drop (k * size)).take size) wr → Calls Try.prog c (#[u] ++ cap) wr fun e w' => (∃ r, e = .returned r) ∧ I (k + 1) w') := fun u hu => step.out k wr u hI (by rw [Nat.add_mul]; omega) hu
      have HS : Hid (SlB g (.slice (some ⟨g, o + k * size, none⟩) size c') ((l.drop (k * size)).take size) wr) :=
        ⟨o + k * size, c', by simp; omega, by simp; omega, hc2, ((hst.out k wr hI).drop _).take _⟩
      have hq : Hid (m + k * size = l.length) := hm
      clear hm
      have hks : Hid (∀ x, x = k * size → x + size = (k + 1) * size) := by intro x hx; rw [Nat.add_mul, hx]; omega
      have hks' := hks.out _ rfl
      generalize hke : k * size = ks at *
      have hke' : Hid (k * size = ks) := hke
      clear hke
      by_cases hcs : c' = size
      · subst hcs
        go_wp2_with (go_at_fn c; refine (HC.out _ HS.out).mono ?_; rintro e w1 ⟨⟨r, rfl⟩, hI1⟩)
        go_roundg (m - c')
        case measure => omega
        case rel => exact ⟨k + 1, _, _, _, rfl, by have := hq.out; omega, by omega, by omega, by omega, .inl (by omega), hI1⟩
      · have hcs' : ¬ size = c' := fun h => hcs h.symm
        go_wp2_with (go_at_fn c; refine (HC.out _ HS.out).mono ?_; rintro e w1 ⟨⟨r, rfl⟩, hI1⟩)
        go_roundg (m - size)
        case measure => omega
        case rel => exact ⟨k + 1, _, _, _, rfl, by have := hq.out; omega, by omega, by omega, by omega, .inr (by omega), hI1⟩
    · have hlt : (m : Int) < (size : Int) := by omega
      have hm' : m = l.length - k * size := by omega
      have F := FIN.out k wr o' c' hI (by omega) (by omega) (by omega) hc2 (by rw [← hm']; exact ho)
      rw [← hm'] at F
      have F : Hid (SlB g (.slice (some ⟨g, o', none⟩) m c') (l.drop (l.length / size * size)) wr ∧ I (l.length / size) wr) := F
      clear hm' hm
      go_wp2
      go_ret
      exact ⟨_, rfl, F.out⟩
/-- Of nil there are no pieces. -/
theorem pieces_nil (a : Option Addr) (size : Nat) (hs : 0 < size) (c : Nat) (cap : Array Value) (w : World) : Calls Try.prog 43 #[.slice a 0 0, .int .i64 size, .func (.func c) #[] cap] w fun e w' => e = .returned (.slice a 0 0) ∧ Nw w w' := by
  have h1 : (0 : Int) < (size : Int) := by omega
  go_enter Try.func43, Try.ntmps43
  go_wp2
  go_loopg [0] 1 (fun kx t0 wr => t0 = .slice a 0 0 ∧ wr = w)
  case atStart => exact ⟨rfl, rfl⟩
  case round =>
    obtain ⟨rfl, rfl⟩ := hrel
    go_wp2
    go_ret
    exact ⟨rfl, Fr.refl _ _⟩
/-- A digest's block anew. -/
theorem DB.of {T g tot : Nat} {rest : List By} {ext : List Value} {w w' : World} (h : w'.heap[g]? = some (.cells (dcells tot rest ext).toArray T)) : DB T g tot rest ext w' := h
end Go.Proofs.Ytlfcgldbgejfbaa
