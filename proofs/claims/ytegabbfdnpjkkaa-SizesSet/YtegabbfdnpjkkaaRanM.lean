import Derived.Test.YtegabbfdnpjkkaaRanL
namespace Go.Proofs.Ytegabbfdnpjkkaa
open Go.RowKit
set_option linter.unusedVariables false

set_option maxHeartbeats 2000000 in
set_option maxRecDepth 100000 in
theorem first1_any (c : Nat) (cap : Array Value) (p : Rg → Bool) (bi brb br g k : Nat) (L xs : List Rg) (w : World) (eg : ∀ args w, (callFunc c args).run Try.prog w = .ok (.enter c args) w) (hp : Clos c cap p w)
    (h1 : w.cell? ⟨bi, 0, none⟩ = some (.func (.func c) #[] cap)) (h2 : w.cell? ⟨brb, 0, none⟩ = some (.pointer (some ⟨br, 0, none⟩))) (h3 : w.cell? ⟨br, 0, none⟩ = some (.slice (some ⟨g, 0, none⟩) L.length xs.length)) (h4 : RowB g xs w) (hx : xs.take L.length = L) (hk : k < L.length) (hl : L.length ≤ xs.length) (hm : xs.length ≤ maxLen) :
    Calls Try.prog 50 #[.int .i64 k, .pointer (some ⟨bi, 0, none⟩), .pointer (some ⟨brb, 0, none⟩)] w fun e w' => e = .returned (.bool (p L[k])) ∧ Nw w w' := by
  unfold maxLen at hm
  have hxk : xs[k] = L[k] := by
    have : (xs.take L.length)[k]? = L[k]? := by rw [hx]
    rw [List.getElem?_take, if_pos hk, List.getElem?_eq_getElem (by omega), List.getElem?_eq_getElem hk] at this
    exact Option.some.inj this
  obtain ⟨c1, c2⟩ := h4.cell k (by omega)
  rw [hxk] at c1 c2
  generalize L[k] = y at c1 c2 ⊢
  have HC : Hid (Calls Try.prog c (#[rv y] ++ cap) w.drew fun e w' => e = .returned (.bool (p y)) ∧ Nw w.drew w') := hp w.drew y (Fr.refl _ _).drew
  clear hx hxk h4 hp
  have hkz : (k : Int) < (L.length : Int) := by omega
  have KEY : Hid (∀ w', Nw w w' → w'.cell? ⟨bi, 0, none⟩ = some (.func (.func c) #[] cap) ∧ w'.cell? ⟨brb, 0, none⟩ = some (.pointer (some ⟨br, 0, none⟩)) ∧ w'.cell? ⟨br, 0, none⟩ = some (.slice (some ⟨g, 0, none⟩) L.length xs.length) ∧ w'.cell? ⟨g, k * 2, none⟩ = some (.int .i64 y.1) ∧ w'.cell? ⟨g, k * 2 + 1, none⟩ = some (.int .i64 y.2)) :=
    fun w' h => ⟨h.cell h1, h.cell h2, h.cell h3, h.cell c1, h.cell c2⟩
  go_enter Try.func50, Try.ntmps50
  go_wp2_with fail
  go_region_held3 (fun w' => w'.cell? ⟨bi, 0, none⟩ = some (.func (.func c) #[] cap) ∧ w'.cell? ⟨brb, 0, none⟩ = some (.pointer (some ⟨br, 0, none⟩)) ∧ w'.cell? ⟨br, 0, none⟩ = some (.slice (some ⟨g, 0, none⟩) L.length xs.length) ∧ w'.cell? ⟨g, k * 2, none⟩ = some (.int .i64 y.1) ∧ w'.cell? ⟨g, k * 2 + 1, none⟩ = some (.int .i64 y.2))
    (first | exact KEY.out _ hN1 | exact KEY.out _ (Fr.refl _ _).drew | exact KEY.out _ (Fr.refl _ _))
    (first | (go_at_fn c; refine HC.out.mono ?_; rintro e w1 ⟨rfl, hN⟩; have hN1 : Nw w w1 := (Fr.refl _ _).drew.trans hN))
  go_wp2
  go_ret
  exact ⟨rfl, hN1⟩

set_option maxHeartbeats 4000000 in
set_option maxRecDepth 1000000 in
theorem search_any (cp : Array Value) (n : Nat) (q : Nat → Bool) (w : World) (hsz : n < 4611686018427387904)
    (hf : ∀ (W : World) (i : Nat), Nw w W → i < n → Calls Try.prog 50 (#[.int .i64 i] ++ cp) W fun e w' => e = .returned (.bool (q i)) ∧ Nw W w')
    (hmono : ∀ a b, a ≤ b → b < n → q a = true → q b = true) :
    Calls Try.prog 49 #[.int .i64 n, .func (.func 50) #[] cp] w fun e w' => ∃ r : Nat, e = .returned (.int .i64 r) ∧ r ≤ n ∧ (∀ t, t < r → q t = false) ∧ (∀ t, r ≤ t → t < n → q t = true) ∧ Nw w w' := by
  have HF : Hid _ := hf
  have M : Hid _ := hmono
  clear hf hmono
  go_enter Try.func49, Try.ntmps49
  go_wp2
  go_loopg [5, 6] n (fun kx s5 s6 wr => ∃ (lo hi : Nat), s5 = .int .i64 lo ∧ s6 = .int .i64 hi ∧ lo ≤ hi ∧ hi ≤ n ∧ hi - lo ≤ kx ∧ Nw w wr ∧
    Hid ((∀ t, t < lo → q t = false) ∧ (∀ t, hi ≤ t → t < n → q t = true)))
  case atStart => exact ⟨0, n, rfl, rfl, Nat.zero_le _, Nat.le_refl _, by omega, Fr.refl _ _, (⟨fun t ht => absurd ht (Nat.not_lt_zero _), fun t h1 h2 => by omega⟩ : (∀ t, t < 0 → q t = false) ∧ (∀ t, n ≤ t → t < n → q t = true))⟩
  case round =>
    obtain ⟨lo, hi, rfl, rfl, hlh, hin, hg, hN, I⟩ := hrel
    by_cases hlt : lo < hi
    · have hc := HF.out wr ((lo + hi) / 2) hN (by omega)
      rw [show (((lo + hi) / 2 : Nat) : Int) = ((lo : Int) + (hi : Int)) / 2 by omega] at hc
      cases hp : q ((lo + hi) / 2) <;> rw [hp] at hc
      · have HP : Hid (q ((lo + hi) / 2) = false) := hp
        clear hp
        go_wp2_with (go_at_call 50; refine hc.mono ?_; rintro e w' ⟨rfl, hN'⟩)
        go_roundg (hi - ((lo + hi) / 2 + 1))
        case measure => omega
        case rel =>
          have I2 : Hid ((∀ t, t < (lo + hi) / 2 + 1 → q t = false) ∧ (∀ t, hi ≤ t → t < n → q t = true)) := ⟨fun t ht => (by
            cases h : q t with
            | false => rfl
            | true => have := M.out t ((lo + hi) / 2) (by omega) (by omega) h; rw [HP.out] at this; cases this), I.out.2⟩
          exact ⟨(lo + hi) / 2 + 1, hi, by rw [show ((lo : Int) + (hi : Int)) / 2 + 1 = (((lo + hi) / 2 + 1 : Nat) : Int) by omega], rfl, by omega, hin, Nat.le_refl _, hN.trans hN', I2⟩
      · have HP : Hid (q ((lo + hi) / 2) = true) := hp
        clear hp
        go_wp2_with (go_at_call 50; refine hc.mono ?_; rintro e w' ⟨rfl, hN'⟩)
        go_roundg ((lo + hi) / 2 - lo)
        case measure => omega
        case rel =>
          have I2 : Hid ((∀ t, t < lo → q t = false) ∧ (∀ t, (lo + hi) / 2 ≤ t → t < n → q t = true)) := ⟨I.out.1, fun t ht htn => M.out ((lo + hi) / 2) t ht htn HP.out⟩
          exact ⟨lo, (lo + hi) / 2, rfl, by rw [show ((lo : Int) + (hi : Int)) / 2 = (((lo + hi) / 2 : Nat) : Int) by omega], by omega, by omega, Nat.le_refl _, hN.trans hN', I2⟩
    · obtain rfl : hi = lo := by omega
      go_wp2
      go_ret
      exact ⟨hi, rfl, hin, I.out.1, I.out.2, hN⟩

/-- A set in memory: block br holds the slice. -/
def RngB (br : Nat) (og : Option Nat) (L : List Rg) (w : World) : Prop := ∃ v, w.heap[br]? = some (.cells #[v] 47) ∧ SVal v og L w ∧ og ≠ some br
theorem box_cell {w : World} {b : Nat} {v : Value} {t : TypeId} (h : w.heap[b]? = some (.cells #[v] t)) : w.cell? ⟨b, 0, none⟩ = some v ∧ w.frozen? ⟨b, 0, none⟩ = false := by
  constructor <;> simp [World.cell?, World.frozen?, h]
theorem RngB.nw {br : Nat} {og : Option Nat} {L : List Rg} {w w' : World} (h : RngB br og L w) (f : Nw w w') : RngB br og L w' := by
  obtain ⟨v, h1, h2, h3⟩ := h
  exact ⟨v, (f.block br (Array.getElem?_eq_some_iff.1 h1).1 (fun h => h)).trans h1, f.sval h2, h3⟩

theorem eg43 : ∀ args w, (callFunc 43 args).run Try.prog w = .ok (.enter 43 args) w := fun args w => MuLone.run_callFunc_enter Try.func43 (by kernel_rfl) rfl args w
theorem eg44 : ∀ args w, (callFunc 44 args).run Try.prog w = .ok (.enter 44 args) w := fun args w => MuLone.run_callFunc_enter Try.func44 (by kernel_rfl) rfl args w
theorem eg40 : ∀ args w, (callFunc 40 args).run Try.prog w = .ok (.enter 40 args) w := fun args w => MuLone.run_callFunc_enter Try.func40 (by kernel_rfl) rfl args w
theorem eg48 : ∀ args w, (callFunc 48 args).run Try.prog w = .ok (.enter 48 args) w := fun args w => MuLone.run_callFunc_enter Try.func48 (by kernel_rfl) rfl args w

/-- r is where p begins to hold in L. -/
def Part (L : List Rg) (p : Rg → Bool) (r : Nat) : Prop := r ≤ L.length ∧ (∀ t (h : t < L.length), t < r → p L[t] = false) ∧ ∀ t (h : t < L.length), r ≤ t → p L[t] = true

set_option maxHeartbeats 4000000 in
set_option maxRecDepth 100000 in
theorem first_any (c : Nat) (cap : Array Value) (p : Rg → Bool) (br : Nat) (og : Option Nat) (L : List Rg) (w : World) (eg : ∀ args w, (callFunc c args).run Try.prog w = .ok (.enter c args) w) (hp : Clos c cap p w) (h : RngB br og L w) (hL : L.length ≤ 65536)
    (hmono : ∀ a b (ha : a < L.length) (hb : b < L.length), a ≤ b → p L[a] = true → p L[b] = true) :
    Calls Try.prog 39 #[.pointer (some ⟨br, 0, none⟩), .func (.func c) #[] cap] w fun e w' => ∃ r : Nat, e = .returned (.int .i64 r) ∧ Part L p r ∧ Nw w w' := by
  obtain ⟨v, h1, h2, h3⟩ := h
  obtain ⟨c0, f0⟩ := box_cell h1
  have hbr := World.block_lt_of_cell? _ _ c0
  have hbr1 : ¬ br = w.heap.size := by have : br < w.heap.size := hbr; omega
  have hbr2 : ¬ br = w.heap.size + 1 := by have : br < w.heap.size := hbr; omega
  have hmf : ∀ (fn : Fn) (first cap : Array Value) (w : World), (Instr.makeFunc fn first cap).run Try.prog w = .ok (.func fn first cap) w := fun _ _ _ _ => rfl
  obtain ⟨W0, hW0⟩ : ∃ W0, W0 = (w.alloc (.cells #[.pointer (some ⟨br, 0, none⟩)] 44)).alloc (.cells #[.func (.func c) #[] cap] 60) := ⟨_, rfl⟩
  have hN0 : Nw w W0 := by rw [hW0]; exact ((Fr.refl _ _).alloc _).alloc _
  have b2 : W0.cell? ⟨w.heap.size, 0, none⟩ = some (.pointer (some ⟨br, 0, none⟩)) := by
    have : W0.heap[w.heap.size]? = some (.cells #[.pointer (some ⟨br, 0, none⟩)] 44) := by
      rw [hW0]; show ((w.heap.push _).push _)[w.heap.size]? = _; simp [Array.getElem?_push]
    exact (box_cell this).1
  have b3 : W0.cell? ⟨w.heap.size + 1, 0, none⟩ = some (.func (.func c) #[] cap) := by
    have : W0.heap[w.heap.size + 1]? = some (.cells #[.func (.func c) #[] cap] 60) := by
      rw [hW0]; show ((w.heap.push _).push _)[w.heap.size + 1]? = _; rw [Array.getElem?_push, if_pos (by simp)]
    exact (box_cell this).1
  have hse : Calls Try.prog 49 #[.int .i64 L.length, .func (.func 50) #[] #[.pointer (some ⟨w.heap.size + 1, 0, none⟩), .pointer (some ⟨w.heap.size, 0, none⟩)]] W0 fun e w' => ∃ r : Nat, e = .returned (.int .i64 r) ∧ Part L p r ∧ Nw w w' := by
    refine (search_any #[.pointer (some ⟨w.heap.size + 1, 0, none⟩), .pointer (some ⟨w.heap.size, 0, none⟩)] L.length (fun t => if h : t < L.length then p L[t] else false) W0 (by omega) (fun W i hW hi => ?_) (fun a b hab hb ha => ?_)).mono ?_
    · rcases h2 with ⟨_, _, rfl⟩ | ⟨g, xs, rfl, rfl, k1, k2, k3, k4⟩
      · simp at hi
      simp only [dif_pos hi]
      have hWw := hN0.trans hW
      exact first1_any c cap p _ _ br g i L xs W eg (fun W' y hW' => hp W' y (hWw.trans hW')) (hW.cell b3) (hW.cell b2) (hWw.cell c0) (hWw.row k4) k3 hi k2 k1
    · have ha' : a < L.length := by omega
      simp only [dif_pos hb, dif_pos ha'] at ha ⊢
      exact hmono a b ha' hb hab ha
    · rintro e w' ⟨r, rfl, r1, r2, r3, hN⟩
      refine ⟨r, rfl, ⟨r1, fun t h ht => ?_, fun t h ht => ?_⟩, hN0.trans hN⟩
      · have := r2 t ht; simpa only [dif_pos h] using this
      · have := r3 t ht h; simpa only [dif_pos h] using this
  have HS : Hid (Calls Try.prog 49 #[.int .i64 L.length, .func (.func 50) #[] #[.pointer (some ⟨w.heap.size + 1, 0, none⟩), .pointer (some ⟨w.heap.size, 0, none⟩)]] W0 fun e w' => ∃ r : Nat, e = .returned (.int .i64 r) ∧ Part L p r ∧ Nw w w') := hse
  rw [hW0] at HS
  have hlen : ∃ a cap', v = .slice a L.length cap' := by
    rcases h2 with ⟨rfl, _, rfl⟩ | ⟨g, xs, rfl, rfl, k1, k2, k3, k4⟩
    · exact ⟨_, _, rfl⟩
    · exact ⟨_, _, rfl⟩
  obtain ⟨va, vc, rfl⟩ := hlen
  clear hse h1 h2 hN0 b2 b3 hW0 W0 hmono hp
  go_enter Try.func39, Try.ntmps39
  go_wp2_with (go_at_call 49; refine HS.out.mono ?_; rintro e w' ⟨r, rfl, hr⟩)
  go_ret
  exact ⟨r, rfl, hr⟩
end Go.Proofs.Ytegabbfdnpjkkaa
