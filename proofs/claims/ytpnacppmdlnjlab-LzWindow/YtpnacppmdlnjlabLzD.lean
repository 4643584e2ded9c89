import Derived.Test.YtpnacppmdlnjlabLzC
import Derived.Handy
namespace Go.Proofs.Ytpnacppmdlnjlab
open Go.RowKit
set_option linter.unusedVariables false

/-- The closures that read b, from place at' on: where b, the place and the first of them lie. -/
structure Rds (D B1 B2 B3 : Nat) (a : Option Addr) (c : Nat) (b : List By) (at' : Nat) (w : World) : Prop where
  c1 : w.cell? ⟨B1, 0, none⟩ = some (.slice a b.length c)
  c2 : w.cell? ⟨B2, 0, none⟩ = some (.int .i64 at')
  f2 : w.frozen? ⟨B2, 0, none⟩ = false
  c3 : w.cell? ⟨B3, 0, none⟩ = some (.func (.func 19) #[] #[.pointer (some ⟨B1, 0, none⟩), .pointer (some ⟨B2, 0, none⟩)])
  hb : b ≠ [] → ∃ g o, a = some ⟨g, o, none⟩ ∧ g < D ∧ Rd g o b w
  le : at' ≤ b.length
  hc : b.length ≤ c
  hc2 : c < 9223372036854775808
  sm : b.length ≤ 140737488351232
  d2 : D ≤ B2
  ne1 : B1 ≠ B2
  ne3 : B3 ≠ B2
theorem Fr.frozen {X : Nat → Prop} {w w' : World} (h : Fr X w w') {p : Addr} (hp : p.block < w.heap.size) (hx : ¬ X p.block) : w'.frozen? p = w.frozen? p := by
  have := h.block p.block hp hx
  obtain ⟨b, o, s⟩ := p
  simp only [World.frozen?, this]
theorem Rds.lt2 {D B1 B2 B3 : Nat} {a : Option Addr} {c : Nat} {b : List By} {at' : Nat} {w : World} (h : Rds D B1 B2 B3 a c b at' w) : B2 < w.heap.size := World.block_lt_of_cell? _ _ h.c2
theorem Rds.kept {D B1 B2 B3 : Nat} {a : Option Addr} {c : Nat} {b : List By} {at' : Nat} {w w' : World} {X : Nat → Prop} (h : Rds D B1 B2 B3 a c b at' w) (f : Fr X w w') (h1 : ¬ X B1) (h2 : ¬ X B2) (h3 : ¬ X B3) (h4 : ∀ k, k < D → ¬ X k) : Rds D B1 B2 B3 a c b at' w' :=
  ⟨f.cellv h.c1 h1, f.cellv h.c2 h2, (f.frozen (p := ⟨B2, 0, none⟩) h.lt2 h2).trans h.f2, f.cellv h.c3 h3, fun hb => by
    obtain ⟨g, o, k1, k2, k3⟩ := h.hb hb
    exact ⟨g, o, k1, k2, k3.kept f (h4 g k2)⟩, h.le, h.hc, h.hc2, h.sm, h.d2, h.ne1, h.ne3⟩
theorem Rds.nw {D B1 B2 B3 : Nat} {a : Option Addr} {c : Nat} {b : List By} {at' : Nat} {w w' : World} (h : Rds D B1 B2 B3 a c b at' w) (f : Nw w w') : Rds D B1 B2 B3 a c b at' w' := h.kept f (fun h => h) (fun h => h) (fun h => h) (fun _ _ h => h)
theorem Rds.put {D B1 B2 B3 : Nat} {a : Option Addr} {c : Nat} {b : List By} {at' : Nat} {w : World} (h : Rds D B1 B2 B3 a c b at' w) (n : Nat) (hn : n ≤ b.length) (z : Int) (hz : z = n) : Rds D B1 B2 B3 a c b n (w.setCell ⟨B2, 0, none⟩ (.int .i64 z)) := by
  subst hz
  have hf : Fr (fun k => k = B2) w (w.setCell ⟨B2, 0, none⟩ (.int .i64 n)) := (Fr.refl _ _).setCell _ _ (.inl rfl)
  refine ⟨hf.cellv h.c1 h.ne1, ?_, ?_, hf.cellv h.c3 h.ne3, fun hb => ?_, hn, h.hc, h.hc2, h.sm, h.d2, h.ne1, h.ne3⟩
  · exact World.cell?_setCell_same _ _ _ h.c2
  · rw [World.frozen?_setCell]; exact h.f2
  · obtain ⟨g, o, k1, k2, k3⟩ := h.hb hb
    exact ⟨g, o, k1, k2, k3.kept hf (by have := h.d2; omega)⟩

set_option maxHeartbeats 4000000 in
theorem take_no' (B1 B2 : Nat) (a : Option Addr) (len c at' : Nat) (n : Int) (w : World) (h1 : w.cell? ⟨B1, 0, none⟩ = some (.slice a len c)) (h2 : w.cell? ⟨B2, 0, none⟩ = some (.int .i64 at')) (hl : len < 9223372036854775808) (hle : at' ≤ len) (hn : ((len - at' : Nat) : Int) < n) :
    Calls Try.prog 19 #[.int .i64 n, .pointer (some ⟨B1, 0, none⟩), .pointer (some ⟨B2, 0, none⟩)] w fun e w' => e = .returned (.tuple #[.slice none 0 0, .bool false]) ∧ w' = w := by
  go_enter Try.func19, Try.ntmps19
  go_wp2
  go_ret2
  exact ⟨rfl, rfl⟩
set_option maxHeartbeats 4000000 in
theorem take_yes' (B1 B2 g o : Nat) (len c at' : Nat) (n : Nat) (w : World) (h1 : w.cell? ⟨B1, 0, none⟩ = some (.slice (some ⟨g, o, none⟩) len c)) (h2 : w.cell? ⟨B2, 0, none⟩ = some (.int .i64 at')) (hf : w.frozen? ⟨B2, 0, none⟩ = false) (hB : B1 ≠ B2) (hc : len ≤ c) (hl : c < 9223372036854775808) (hle : at' + n ≤ len) :
    Calls Try.prog 19 #[.int .i64 n, .pointer (some ⟨B1, 0, none⟩), .pointer (some ⟨B2, 0, none⟩)] w fun e w' => (∃ q d, e = .returned (.tuple #[.slice (some ⟨g, q, none⟩) n d, .bool true]) ∧ (n = 0 ∨ q = o + at') ∧ n ≤ d ∧ d < 9223372036854775808) ∧ w' = w.setCell ⟨B2, 0, none⟩ (.int .i64 (at' + n)) := by
  go_enter Try.func19, Try.ntmps19
  go_wp2
  · go_ret2
    exact ⟨⟨_, _, rfl, by omega, by omega, by omega⟩, rfl⟩
  · go_ret2
    exact ⟨⟨_, _, rfl, by omega, by omega, by omega⟩, rfl⟩
/-- What take answers. -/
def Took (D B1 B2 B3 : Nat) (a : Option Addr) (c : Nat) (b : List By) (at' n : Nat) (w : World) (e : Ending) (w' : World) : Prop :=
  ∃ g q d, e = .returned (.tuple #[.slice (some ⟨g, q, none⟩) n d, .bool true]) ∧ n ≤ d ∧ d < 9223372036854775808 ∧ g < D ∧ Rd g q ((b.drop at').take n) w' ∧ Rds D B1 B2 B3 a c b (at' + n) w' ∧ Fr (fun k => k = B2) w w'
theorem take_no {D B1 B2 B3 : Nat} {a : Option Addr} {c : Nat} {b : List By} {at' : Nat} {w : World} (h : Rds D B1 B2 B3 a c b at' w) (n : Int) (hn : ((b.length - at' : Nat) : Int) < n) :
    Calls Try.prog 19 #[.int .i64 n, .pointer (some ⟨B1, 0, none⟩), .pointer (some ⟨B2, 0, none⟩)] w fun e w' => e = .returned (.tuple #[.slice none 0 0, .bool false]) ∧ w' = w :=
  take_no' B1 B2 a b.length c at' n w h.c1 h.c2 (by have := h.sm; omega) h.le hn
theorem take_yes {D B1 B2 B3 : Nat} {a : Option Addr} {c : Nat} {b : List By} {at' : Nat} {w : World} (h : Rds D B1 B2 B3 a c b at' w) (hb : b ≠ []) (n : Nat) (hn : at' + n ≤ b.length) :
    Calls Try.prog 19 #[.int .i64 n, .pointer (some ⟨B1, 0, none⟩), .pointer (some ⟨B2, 0, none⟩)] w (Took D B1 B2 B3 a c b at' n w) := by
  obtain ⟨g, o, rfl, hg, hrd⟩ := h.hb hb
  refine (take_yes' B1 B2 g o b.length c at' n w h.c1 h.c2 h.f2 h.ne1 h.hc h.hc2 hn).mono ?_
  rintro e w' ⟨⟨q, d, rfl, hq, hd, hd2⟩, rfl⟩
  have hf : Fr (fun k => k = B2) w (w.setCell ⟨B2, 0, none⟩ (.int .i64 (at' + n))) := (Fr.refl _ _).setCell _ _ (.inl rfl)
  refine ⟨g, q, d, rfl, hd, hd2, hg, ?_, h.put (at' + n) hn _ (by omega), hf⟩
  rcases hq with rfl | rfl
  · simp; exact Rd.nil _ _ _
  · exact ((hrd.drop at').take n).kept hf (by have := h.d2; omega)
set_option maxHeartbeats 4000000 in
theorem place_any {D B1 B2 B3 : Nat} {a : Option Addr} {c : Nat} {b : List By} {at' : Nat} {w : World} (h : Rds D B1 B2 B3 a c b at' w) :
    Calls Try.prog 21 #[.pointer (some ⟨B2, 0, none⟩)] w fun e w' => e = .returned (.int .i64 at') ∧ w' = w := by
  have h2 := h.c2
  clear h
  go_enter Try.func21, Try.ntmps21
  go_wp2
  go_ret
  exact ⟨rfl, rfl⟩
/-- What number answers. -/
def Numd (D B1 B2 B3 : Nat) (a : Option Addr) (c : Nat) (b : List By) (at' : Nat) (r : Option (Nat × Nat)) (w : World) (e : Ending) (w' : World) : Prop :=
  match r with
  | none => e = .returned (.tuple #[.int .i64 0, .bool false]) ∧ Fr (fun k => k = B2) w w'
  | some (n, k) => e = .returned (.tuple #[.int .i64 n, .bool true]) ∧ Rds D B1 B2 B3 a c b (at' + k) w' ∧ Fr (fun k => k = B2) w w'
theorem more_at {b : List By} {i : Nat} (h : i < b.length) : more (b.drop i) = if b[i].toNat = 255 then (match more (b.drop (i + 1)) with | none => none | some (n, k) => some (n + 255, k + 1)) else some (b[i].toNat, 1) := by
  rw [List.drop_eq_getElem_cons h]; rfl
/-- How the loop of number stands. -/
def NumI (b : List By) (at' : Nat) (r : Option (Nat × Nat)) (go : Bool) (i n : Nat) : Prop :=
  n ≤ 15 + 255 * (i - at') ∧ at' ≤ i ∧ match go with
    | true => r = (match more (b.drop i) with | none => none | some (m, k) => some (m + n, k + (i - at')))
    | false => r = some (n, i - at')
set_option maxHeartbeats 8000000 in
set_option maxRecDepth 100000 in
theorem number_any {D B1 B2 B3 : Nat} {a : Option Addr} {c : Nat} {b : List By} {at' : Nat} {w : World} (h : Rds D B1 B2 B3 a c b at' w) (low : Nat) (hl : low ≤ 15) :
    Calls Try.prog 20 #[.int .u8 low, .pointer (some ⟨B3, 0, none⟩)] w (Numd D B1 B2 B3 a c b at' (num low (b.drop at')) w) := by
  have HI0 : Hid (Rds D B1 B2 B3 a c b at' w ∧ Fr (fun k => k = B2) w w ∧ NumI b at' (num low (b.drop at')) (decide (low = 15)) at' low) := by
    refine ⟨h, Fr.refl _ _, by omega, Nat.le_refl _, ?_⟩
    by_cases h15 : low = 15
    · subst h15
      simp only [num, decide_true, if_true, Nat.sub_self, Nat.add_zero]
      cases more (b.drop at') <;> rfl
    · simp only [num, h15, decide_false, if_false, Nat.sub_self]
  obtain ⟨P, hP⟩ : ∃ P, P = Numd D B1 B2 B3 a c b at' (num low (b.drop at')) w := ⟨_, rfl⟩
  rw [← hP]
  have hP' : Hid (P = Numd D B1 B2 B3 a c b at' (num low (b.drop at')) w) := hP
  clear hP h
  have hz : ((low : Int) == 15) = decide (low = 15) := by
    by_cases h15 : low = 15
    · subst h15; rfl
    · have : ¬ (low : Int) = 15 := by omega
      simp [h15, this]
  go_enter Try.func20, Try.ntmps20
  go_wp2
  go_loopg [5, 6] (b.length + 1) (fun kx n m wr => ∃ (i N : Nat) (go : Bool), b.length + (if go then 1 else 0) - i ≤ kx ∧ n = .int .i64 N ∧ m = .bool go ∧ Hid (Rds D B1 B2 B3 a c b i wr ∧ Fr (fun k => k = B2) w wr ∧ NumI b at' (num low (b.drop at')) go i N))
  case atStart => exact ⟨at', low, decide (low = 15), by split <;> omega, rfl, rfl, HI0⟩
  case round =>
    obtain ⟨i, N, go, hkx, rfl, rfl, HI⟩ := hrel
    clear HI0 hz
    have hle : i ≤ b.length := HI.out.1.le
    have hsm : b.length ≤ 140737488351232 := HI.out.1.sm
    have hN : N ≤ 15 + 255 * (i - at') := HI.out.2.2.1
    cases go
    · go_wp2
      rw [hP'.out]
      obtain ⟨h1, h2, h3, h4, h5⟩ := HI.out
      have h5' : num low (b.drop at') = some (N, i - at') := h5
      rw [h5']
      refine ⟨rfl, ?_, h2⟩
      rw [show at' + (i - at') = i by omega]; exact h1
    · have h3 := HI.out.1.c3
      by_cases hlt : i < b.length
      · have HT : Hid (Calls Try.prog 19 #[.int .i64 1, .pointer (some ⟨B1, 0, none⟩), .pointer (some ⟨B2, 0, none⟩)] wr fun e w' => ∃ g q d, e = .returned (.tuple #[.slice (some ⟨g, q, none⟩) 1 d, .bool true]) ∧ w'.cell? ⟨g, q, none⟩ = some (.int .u8 b[i].toNat) ∧ Hid (Rds D B1 B2 B3 a c b (i + 1) w' ∧ Fr (fun k => k = B2) w w')) := by
          refine (take_yes HI.out.1 (by intro h; rw [h] at hlt; simp at hlt) 1 (by omega)).mono ?_
          rintro e w' ⟨g, q, d, rfl, hd, hd2, hg, hrd, hR, hF⟩
          refine ⟨g, q, d, rfl, ?_, hR, HI.out.2.1.trans hF⟩
          have := hrd.at 0 b[i] (by rw [List.drop_eq_getElem_cons hlt]; rfl)
          rw [Nat.add_zero] at this; exact this
        have hx := b[i].isLt
        have HX : Hid (∀ n, num low (b.drop at') = n → NumI b at' n (decide (b[i].toNat = 255)) (i + 1) (N + b[i].toNat)) := by
          intro n hn
          obtain ⟨h1, h2, h4, h5, h6⟩ := HI.out
          rw [hn] at h6
          refine ⟨by omega, by omega, ?_⟩
          by_cases h255 : b[i].toNat = 255
          · simp only [h255, decide_true]
            simp only [more_at hlt, h255, if_true] at h6
            cases hm : more (b.drop (i + 1)) with
            | none => simp [hm] at h6; exact h6
            | some p =>
              obtain ⟨m, k⟩ := p
              simp [hm] at h6
              simp [h6]; omega
          · simp only [h255, decide_false]
            simp only [more_at hlt, h255, if_false] at h6
            rw [h6]
            congr 2 <;> omega
        have hz : ((b[i].toNat : Int) == 255) = decide (b[i].toNat = 255) := by
          by_cases h255 : b[i].toNat = 255
          · rw [h255]; rfl
          · have : ¬ (b[i].toNat : Int) = 255 := by omega
            simp [h255, this]
        generalize b[i].toNat = x at *
        go_wp2_with (first | (go_at_call 19; with_reducible refine (HT.out).mono ?_; rintro e w1 ⟨g, q, d, rfl, hcell, HR⟩))
        go_roundg (b.length + (if decide (x = 255) then 1 else 0) - (i + 1))
        case measure => simp only [if_true] at hkx; split <;> omega
        case rel => exact ⟨i + 1, N + x, decide (x = 255), Nat.le_refl _, by simp, rfl, HR.out.1, HR.out.2, HX.out _ rfl⟩
      · have HT : Hid (Calls Try.prog 19 #[.int .i64 1, .pointer (some ⟨B1, 0, none⟩), .pointer (some ⟨B2, 0, none⟩)] wr fun e w' => e = .returned (.tuple #[.slice none 0 0, .bool false]) ∧ w' = wr) := take_no HI.out.1 1 (by omega)
        go_wp2_with (first | (go_at_call 19; with_reducible refine (HT.out).mono ?_; rintro e w1 ⟨rfl, rfl⟩))
        rw [hP'.out]
        obtain ⟨h1, h2, h4, h5, h6⟩ := HI.out
        have : num low (b.drop at') = none := by
          rw [show b.drop i = [] by simp; omega] at h6
          exact h6
        rw [this]
        exact ⟨rfl, h2⟩
end Go.Proofs.Ytpnacppmdlnjlab
