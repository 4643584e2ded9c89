import Derived.Test.YtdeefemeiggolaaQa
import Derived.Handy
import Derived.Laws.EntriesVeiled
namespace Go.Proofs.Ytdeefemeiggolaa
open Go.RowKit
set_option linter.unusedVariables false

/-- The closures that read b, from place at' on: where b, the place and the first of them lie. -/
structure Rds (D B1 B2 B3 : Nat) (a : Option Addr) (c : Nat) (b : List By) (at' : Nat) (w : World) : Prop where
  c1 : w.cell? ⟨B1, 0, none⟩ = some (.slice a b.length c)
  c2 : w.cell? ⟨B2, 0, none⟩ = some (.int .i64 at')
  f2 : w.frozen? ⟨B2, 0, none⟩ = false
  c3 : w.cell? ⟨B3, 0, none⟩ = some (.func (.func 102) #[] #[.pointer (some ⟨B1, 0, none⟩), .pointer (some ⟨B2, 0, none⟩)])
  hb : b ≠ [] → ∃ g o, a = some ⟨g, o, none⟩ ∧ g < D ∧ Rd g o b w
  le : at' ≤ b.length
  hc : b.length ≤ c
  hc2 : c < 9223372036854775808
  sm : b.length ≤ 140737488351232
  d2 : D ≤ B2
  ne1 : B1 ≠ B2
  ne3 : B3 ≠ B2
theorem Fr.frozen {X : Nat → Prop} {w w' : World} (h : Fr X w w') {p : Addr} (hp : p.block < w.heap.size) (hx : ¬ X p.block) : w'.frozen? p = w.frozen? p := by
  have := h.block p.block hp hx
  obtain ⟨b, o, s⟩ := p
  simp only [World.frozen?, this]
theorem Rds.lt2 {D B1 B2 B3 : Nat} {a : Option Addr} {c : Nat} {b : List By} {at' : Nat} {w : World} (h : Rds D B1 B2 B3 a c b at' w) : B2 < w.heap.size := World.block_lt_of_cell? _ _ h.c2
theorem Rds.kept {D B1 B2 B3 : Nat} {a : Option Addr} {c : Nat} {b : List By} {at' : Nat} {w w' : World} {X : Nat → Prop} (h : Rds D B1 B2 B3 a c b at' w) (f : Fr X w w') (h1 : ¬ X B1) (h2 : ¬ X B2) (h3 : ¬ X B3) (h4 : ∀ k, k < D → ¬ X k) : Rds D B1 B2 B3 a c b at' w' :=
  ⟨f.cellv h.c1 h1, f.cellv h.c2 h2, (f.frozen (p := ⟨B2, 0, none⟩) h.lt2 h2).trans h.f2, f.cellv h.c3 h3, fun hb => by
    obtain ⟨g, o, k1, k2, k3⟩ := h.hb hb
    exact ⟨g, o, k1, k2, k3.kept f (h4 g k2)⟩, h.le, h.hc, h.hc2, h.sm, h.d2, h.ne1, h.ne3⟩
theorem Rds.nw {D B1 B2 B3 : Nat} {a : Option Addr} {c : Nat} {b : List By} {at' : Nat} {w w' : World} (h : Rds D B1 B2 B3 a c b at' w) (f : Nw w w') : Rds D B1 B2 B3 a c b at' w' := h.kept f (fun h => h) (fun h => h) (fun h => h) (fun _ _ h => h)
theorem Rds.put {D B1 B2 B3 : Nat} {a : Option Addr} {c : Nat} {b : List By} {at' : Nat} {w : World} (h : Rds D B1 B2 B3 a c b at' w) (n : Nat) (hn : n ≤ b.length) (z : Int) (hz : z = n) : Rds D B1 B2 B3 a c b n (w.setCell ⟨B2, 0, none⟩ (.int .i64 z)) := by
  subst hz
  have hf : Fr (fun k => k = B2) w (w.setCell ⟨B2, 0, none⟩ (.int .i64 n)) := (Fr.refl _ _).setCell _ _ (.inl rfl)
  refine ⟨hf.cellv h.c1 h.ne1, ?_, ?_, hf.cellv h.c3 h.ne3, fun hb => ?_, hn, h.hc, h.hc2, h.sm, h.d2, h.ne1, h.ne3⟩
  · exact World.cell?_setCell_same _ _ _ h.c2
  · rw [World.frozen?_setCell]; exact h.f2
  · obtain ⟨g, o, k1, k2, k3⟩ := h.hb hb
    exact ⟨g, o, k1, k2, k3.kept hf (by have := h.d2; omega)⟩

set_option maxHeartbeats 4000000 in
theorem take_no' (B1 B2 : Nat) (a : Option Addr) (len c at' : Nat) (n : Int) (w : World) (h1 : w.cell? ⟨B1, 0, none⟩ = some (.slice a len c)) (h2 : w.cell? ⟨B2, 0, none⟩ = some (.int .i64 at')) (hl : len < 9223372036854775808) (hle : at' ≤ len) (hn : ((len - at' : Nat) : Int) < n) :
    Calls Try.prog 102 #[.int .i64 n, .pointer (some ⟨B1, 0, none⟩), .pointer (some ⟨B2, 0, none⟩)] w fun e w' => e = .returned (.tuple #[.slice none 0 0, .bool false]) ∧ w' = w := by
  go_enter Try.func102, Try.ntmps102
  go_wp2
  go_ret2
  exact ⟨rfl, rfl⟩
set_option maxHeartbeats 4000000 in
theorem take_yes' (B1 B2 g o : Nat) (len c at' : Nat) (n : Nat) (w : World) (h1 : w.cell? ⟨B1, 0, none⟩ = some (.slice (some ⟨g, o, none⟩) len c)) (h2 : w.cell? ⟨B2, 0, none⟩ = some (.int .i64 at')) (hf : w.frozen? ⟨B2, 0, none⟩ = false) (hB : B1 ≠ B2) (hc : len ≤ c) (hl : c < 9223372036854775808) (hle : at' + n ≤ len) :
    Calls Try.prog 102 #[.int .i64 n, .pointer (some ⟨B1, 0, none⟩), .pointer (some ⟨B2, 0, none⟩)] w fun e w' => (∃ q d, e = .returned (.tuple #[.slice (some ⟨g, q, none⟩) n d, .bool true]) ∧ (n = 0 ∨ q = o + at') ∧ n ≤ d ∧ d < 9223372036854775808) ∧ w' = w.setCell ⟨B2, 0, none⟩ (.int .i64 (at' + n)) := by
  go_enter Try.func102, Try.ntmps102
  go_wp2
  · go_ret2
    exact ⟨⟨_, _, rfl, by omega, by omega, by omega⟩, rfl⟩
  · go_ret2
    exact ⟨⟨_, _, rfl, by omega, by omega, by omega⟩, rfl⟩
/-- What take answers. -/
def Took (D B1 B2 B3 : Nat) (a : Option Addr) (c : Nat) (b : List By) (at' n : Nat) (w : World) (e : Ending) (w' : World) : Prop :=
  ∃ g q d, e = .returned (.tuple #[.slice (some ⟨g, q, none⟩) n d, .bool true]) ∧ n ≤ d ∧ d < 9223372036854775808 ∧ g < D ∧ Rd g q ((b.drop at').take n) w' ∧ Rds D B1 B2 B3 a c b (at' + n) w' ∧ Fr (fun k => k = B2) w w'
theorem take_no {D B1 B2 B3 : Nat} {a : Option Addr} {c : Nat} {b : List By} {at' : Nat} {w : World} (h : Rds D B1 B2 B3 a c b at' w) (n : Int) (hn : ((b.length - at' : Nat) : Int) < n) :
    Calls Try.prog 102 #[.int .i64 n, .pointer (some ⟨B1, 0, none⟩), .pointer (some ⟨B2, 0, none⟩)] w fun e w' => e = .returned (.tuple #[.slice none 0 0, .bool false]) ∧ w' = w :=
  take_no' B1 B2 a b.length c at' n w h.c1 h.c2 (by have := h.sm; omega) h.le hn
theorem take_yes {D B1 B2 B3 : Nat} {a : Option Addr} {c : Nat} {b : List By} {at' : Nat} {w : World} (h : Rds D B1 B2 B3 a c b at' w) (hb : b ≠ []) (n : Nat) (hn : at' + n ≤ b.length) :
    Calls Try.prog 102 #[.int .i64 n, .pointer (some ⟨B1, 0, none⟩), .pointer (some ⟨B2, 0, none⟩)] w (Took D B1 B2 B3 a c b at' n w) := by
  obtain ⟨g, o, rfl, hg, hrd⟩ := h.hb hb
  refine (take_yes' B1 B2 g o b.length c at' n w h.c1 h.c2 h.f2 h.ne1 h.hc h.hc2 hn).mono ?_
  rintro e w' ⟨⟨q, d, rfl, hq, hd, hd2⟩, rfl⟩
  have hf : Fr (fun k => k = B2) w (w.setCell ⟨B2, 0, none⟩ (.int .i64 (at' + n))) := (Fr.refl _ _).setCell _ _ (.inl rfl)
  refine ⟨g, q, d, rfl, hd, hd2, hg, ?_, h.put (at' + n) hn _ (by omega), hf⟩
  rcases hq with rfl | rfl
  · simp; exact Rd.nil _ _ _
  · exact ((hrd.drop at').take n).kept hf (by have := h.d2; omega)
set_option maxHeartbeats 4000000 in
theorem place_any {D B1 B2 B3 : Nat} {a : Option Addr} {c : Nat} {b : List By} {at' : Nat} {w : World} (h : Rds D B1 B2 B3 a c b at' w) :
    Calls Try.prog 104 #[.pointer (some ⟨B2, 0, none⟩)] w fun e w' => e = .returned (.int .i64 at') ∧ w' = w := by
  have h2 := h.c2
  clear h
  go_enter Try.func104, Try.ntmps104
  go_wp2
  go_ret
  exact ⟨rfl, rfl⟩
/-- What number answers. -/
def Numd (D B1 B2 B3 : Nat) (a : Option Addr) (c : Nat) (b : List By) (at' : Nat) (r : Option (Nat × Nat)) (w : World) (e : Ending) (w' : World) : Prop :=
  match r with
  | none => e = .returned (.tuple #[.int .i64 0, .bool false]) ∧ Fr (fun k => k = B2) w w'
  | some (n, k) => e = .returned (.tuple #[.int .i64 n, .bool true]) ∧ Rds D B1 B2 B3 a c b (at' + k) w' ∧ Fr (fun k => k = B2) w w'
theorem more_at {b : List By} {i : Nat} (h : i < b.length) : more (b.drop i) = if b[i].toNat = 255 then (match more (b.drop (i + 1)) with | none => none | some (n, k) => some (n + 255, k + 1)) else some (b[i].toNat, 1) := by
  rw [List.drop_eq_getElem_cons h]; rfl
/-- How the loop of number stands. -/
def NumI (b : List By) (at' : Nat) (r : Option (Nat × Nat)) (go : Bool) (i n : Nat) : Prop :=
  n ≤ 15 + 255 * (i - at') ∧ at' ≤ i ∧ match go with
    | true => r = (match more (b.drop i) with | none => none | some (m, k) => some (m + n, k + (i - at')))
    | false => r = some (n, i - at')
set_option maxHeartbeats 8000000 in
set_option maxRecDepth 100000 in
theorem number_any {D B1 B2 B3 : Nat} {a : Option Addr} {c : Nat} {b : List By} {at' : Nat} {w : World} (h : Rds D B1 B2 B3 a c b at' w) (low : Nat) (hl : low ≤ 15) :
    Calls Try.prog 103 #[.int .u8 low, .pointer (some ⟨B3, 0, none⟩)] w (Numd D B1 B2 B3 a c b at' (num low (b.drop at')) w) := by
  have HI0 : Hid (Rds D B1 B2 B3 a c b at' w ∧ Fr (fun k => k = B2) w w ∧ NumI b at' (num low (b.drop at')) (decide (low = 15)) at' low) := by
    refine ⟨h, Fr.refl _ _, by omega, Nat.le_refl _, ?_⟩
    by_cases h15 : low = 15
    · subst h15
      simp only [num, decide_true, if_true, Nat.sub_self, Nat.add_zero]
      cases more (b.drop at') <;> rfl
    · simp only [num, h15, decide_false, if_false, Nat.sub_self]
  obtain ⟨P, hP⟩ : ∃ P, P = Numd D B1 B2 B3 a c b at' (num low (b.drop at')) w := ⟨_, rfl⟩
  rw [← hP]
  have hP' : Hid (P = Numd D B1 B2 B3 a c b at' (num low (b.drop at')) w) := hP
  clear hP h
  have hz : ((low : Int) == 15) = decide (low = 15) := by
    by_cases h15 : low = 15
    · subst h15; rfl
    · have : ¬ (low : Int) = 15 := by omega
      simp [h15, this]
  go_enter Try.func103, Try.ntmps103
  go_wp2
  go_loopg [5, 6] (b.length + 1) (fun kx n m wr => ∃ (i N : Nat) (go : Bool), b.length + (if go then 1 else 0) - i ≤ kx ∧ n = .int .i64 N ∧ m = .bool go ∧ Hid (Rds D B1 B2 B3 a c b i wr ∧ Fr (fun k => k = B2) w wr ∧ NumI b at' (num low (b.drop at')) go i N))
  case atStart => exact ⟨at', low, decide (low = 15), by split <;> omega, rfl, rfl, HI0⟩
  case round =>
    obtain ⟨i, N, go, hkx, rfl, rfl, HI⟩ := hrel
    clear HI0 hz
    have hle : i ≤ b.length := HI.out.1.le
    have hsm : b.length ≤ 140737488351232 := HI.out.1.sm
    have hN : N ≤ 15 + 255 * (i - at') := HI.out.2.2.1
    cases go
    · go_wp2
      rw [hP'.out]
      obtain ⟨h1, h2, h3, h4, h5⟩ := HI.out
      have h5' : num low (b.drop at') = some (N, i - at') := h5
      rw [h5']
      refine ⟨rfl, ?_, h2⟩
      rw [show at' + (i - at') = i by omega]; exact h1
    · have h3 := HI.out.1.c3
      by_cases hlt : i < b.length
      · have HT : Hid (Calls Try.prog 102 #[.int .i64 1, .pointer (some ⟨B1, 0, none⟩), .pointer (some ⟨B2, 0, none⟩)] wr fun e w' => ∃ g q d, e = .returned (.tuple #[.slice (some ⟨g, q, none⟩) 1 d, .bool true]) ∧ w'.cell? ⟨g, q, none⟩ = some (.int .u8 b[i].toNat) ∧ Hid (Rds D B1 B2 B3 a c b (i + 1) w' ∧ Fr (fun k => k = B2) w w')) := by
          refine (take_yes HI.out.1 (by intro h; rw [h] at hlt; simp at hlt) 1 (by omega)).mono ?_
          rintro e w' ⟨g, q, d, rfl, hd, hd2, hg, hrd, hR, hF⟩
          refine ⟨g, q, d, rfl, ?_, hR, HI.out.2.1.trans hF⟩
          have := hrd.at 0 b[i] (by rw [List.drop_eq_getElem_cons hlt]; rfl)
          rw [Nat.add_zero] at this; exact this
        have hx := b[i].isLt
        have HX : Hid (∀ n, num low (b.drop at') = n → NumI b at' n (decide (b[i].toNat = 255)) (i + 1) (N + b[i].toNat)) := by
          intro n hn
          obtain ⟨h1, h2, h4, h5, h6⟩ := HI.out
          rw [hn] at h6
          refine ⟨by omega, by omega, ?_⟩
          by_cases h255 : b[i].toNat = 255
          · simp only [h255, decide_true]
            simp only [more_at hlt, h255, if_true] at h6
            cases hm : more (b.drop (i + 1)) with
            | none => simp [hm] at h6; exact h6
            | some p =>
              obtain ⟨m, k⟩ := p
              simp [hm] at h6
              simp [h6]; omega
          · simp only [h255, decide_false]
            simp only [more_at hlt, h255, if_false] at h6
            rw [h6]
            congr 2 <;> omega
        have hz : ((b[i].toNat : Int) == 255) = decide (b[i].toNat = 255) := by
          by_cases h255 : b[i].toNat = 255
          · rw [h255]; rfl
          · have : ¬ (b[i].toNat : Int) = 255 := by omega
            simp [h255, this]
        generalize b[i].toNat = x at *
        go_wp2_with (first | (go_at_call 102; with_reducible refine (HT.out).mono ?_; rintro e w1 ⟨g, q, d, rfl, hcell, HR⟩))
        go_roundg (b.length + (if decide (x = 255) then 1 else 0) - (i + 1))
        case measure => simp only [if_true] at hkx; split <;> omega
        case rel => exact ⟨i + 1, N + x, decide (x = 255), Nat.le_refl _, by simp, rfl, HR.out.1, HR.out.2, HX.out _ rfl⟩
      · have HT : Hid (Calls Try.prog 102 #[.int .i64 1, .pointer (some ⟨B1, 0, none⟩), .pointer (some ⟨B2, 0, none⟩)] wr fun e w' => e = .returned (.tuple #[.slice none 0 0, .bool false]) ∧ w' = wr) := take_no HI.out.1 1 (by omega)
        go_wp2_with (first | (go_at_call 102; with_reducible refine (HT.out).mono ?_; rintro e w1 ⟨rfl, rfl⟩))
        rw [hP'.out]
        obtain ⟨h1, h2, h4, h5, h6⟩ := HI.out
        have : num low (b.drop at') = none := by
          rw [show b.drop i = [] by simp; omega] at h6
          exact h6
        rw [this]
        exact ⟨rfl, h2⟩
end Go.Proofs.Ytdeefemeiggolaa

namespace Go.Proofs.Ytdeefemeiggolaa
open Go.RowKit
set_option linter.unusedVariables false
/-- How the document's loop over a number stands. -/
def ReadI (b : List By) (at' : Nat) (r : Option (Nat × Nat)) (i n : Nat) : Prop :=
  at' ≤ i ∧ i ≤ b.length ∧ 15 ≤ n ∧ n ≤ 15 + 255 * (i - at') ∧ r = (match more (b.drop i) with | none => none | some (m, k) => some (m + n, k + (i - at')))
theorem ReadI.start (b : List By) (at' : Nat) (h : at' ≤ b.length) : ReadI b at' (match more (b.drop at') with | none => none | some (m, k) => some (m + 15, k)) at' 15 :=
  ⟨Nat.le_refl _, h, Nat.le_refl _, by omega, by cases more (b.drop at') with
    | none => rfl
    | some p => simp⟩
theorem ReadI.step {b : List By} {at' : Nat} {r : Option (Nat × Nat)} {i n : Nat} (h : ReadI b at' r i n) (hi : i < b.length) (h255 : b[i].toNat = 255) : ReadI b at' r (i + 1) (n + 255) := by
  obtain ⟨h1, h2, h3, h4, h5⟩ := h
  refine ⟨by omega, by omega, by omega, by omega, ?_⟩
  rw [h5, more_at hi, if_pos h255]
  cases more (b.drop (i + 1)) with
  | none => rfl
  | some p => simp; omega
theorem ReadI.last {b : List By} {at' : Nat} {r : Option (Nat × Nat)} {i n : Nat} (h : ReadI b at' r i n) (hi : i < b.length) (h255 : ¬ b[i].toNat = 255) : r = some (n + b[i].toNat, i + 1 - at') := by
  obtain ⟨h1, h2, h3, h4, h5⟩ := h
  rw [h5, more_at hi, if_neg h255]
  simp; omega
theorem ReadI.none {b : List By} {at' : Nat} {r : Option (Nat × Nat)} {i n : Nat} (h : ReadI b at' r i n) (hi : ¬ i < b.length) : r = none := by
  obtain ⟨h1, h2, h3, h4, h5⟩ := h
  rw [h5, show b.drop i = [] by simp; omega]; rfl
/-- What read answers. -/
def Readd (b : List By) (at' : Nat) (r : Option (Nat × Nat)) (w : World) (e : Ending) (w' : World) : Prop :=
  w' = w ∧ match r with
  | none => e = .returned (.tuple #[.int .i64 0, .int .i64 b.length, .bool false])
  | some (n, k) => e = .returned (.tuple #[.int .i64 n, .int .i64 (at' + k : Nat), .bool true])
/-- A slice to read in: its bytes lie there unless it has none. -/
def In (a : Option Addr) (c : Nat) (b : List By) (w : World) : Prop := b.length ≤ c ∧ c < 9223372036854775808 ∧ b.length ≤ 140737488351232 ∧ (b ≠ [] → ∃ g o, a = some ⟨g, o, none⟩ ∧ Rd g o b w)
theorem In.at {a : Option Addr} {c : Nat} {b : List By} {w : World} (h : In a c b w) (i : Nat) (hi : i < b.length) : ∃ g o, a = some ⟨g, o, none⟩ ∧ w.cell? ⟨g, o + i, none⟩ = some (.int .u8 b[i].toNat) := by
  obtain ⟨g, o, h1, h2⟩ := h.2.2.2 (by intro e; rw [e] at hi; simp at hi)
  exact ⟨g, o, h1, h2 i hi⟩
set_option maxHeartbeats 8000000 in
set_option maxRecDepth 100000 in
theorem rread_any (a : Option Addr) (c : Nat) (b : List By) (w : World) (h : In a c b w) (at' : Nat) (hat : at' ≤ b.length) :
    Calls Try.prog 95 #[.slice a b.length c, .int .i64 at'] w (Readd b at' (match more (b.drop at') with | none => none | some (m, k) => some (m + 15, k)) w) := by
  obtain ⟨r, hr⟩ : ∃ r, r = (match more (b.drop at') with | none => none | some (m, k) => some (m + 15, k)) := ⟨_, rfl⟩
  have HI0 : Hid (ReadI b at' r at' 15) := by rw [hr]; exact ReadI.start b at' hat
  rw [← hr]
  clear hr
  obtain ⟨P, hP⟩ : ∃ P, P = Readd b at' r w := ⟨_, rfl⟩
  rw [← hP]
  have HP : Hid (P = Readd b at' r w) := hP
  have HN : Hid (In a c b w) := h
  have hb1 := h.1
  have hb2 := h.2.1
  have hb3 := h.2.2.1
  clear hP h
  go_enter Try.func95, Try.ntmps95
  go_wp2
  go_loopg [1, 7] b.length (fun kx i n wr => ∃ (I N : Nat), b.length - I ≤ kx ∧ i = .int .i64 I ∧ n = .int .i64 N ∧ wr = w ∧ Hid (ReadI b at' r I N))
  case atStart => exact ⟨at', 15, by omega, rfl, rfl, rfl, HI0⟩
  case round =>
    obtain ⟨I, N, hkx, rfl, rfl, rfl, HI⟩ := hrel
    clear HI0
    obtain ⟨k1, k2, k3, k4, _⟩ := HI.out
    by_cases hlt : I < b.length
    · obtain ⟨g, o, rfl, hcell⟩ := HN.out.at I hlt
      have hx := b[I].isLt
      by_cases h255 : b[I].toNat = 255
      · have HS := HI.out.step hlt h255
        have HS' : Hid (ReadI b at' r (I + 1) (N + 255)) := HS
        rw [h255] at hcell
        clear HS HI HN HP h255
        go_wp2_with fail
        go_roundg (b.length - (I + 1))
        case measure => omega
        case rel => exact ⟨I + 1, N + 255, by omega, by first | rfl | (congr 1), by first | rfl | (congr 1), rfl, HS'⟩
      · have hl := HI.out.last hlt h255
        have HF : Hid (P (.returned (.tuple #[.int .i64 (N + b[I].toNat : Nat), .int .i64 (I + 1 : Nat), .bool true])) wr) := by
          show P _ _
          rw [HP.out, hl]
          refine ⟨rfl, ?_⟩
          show _ = _
          rw [show at' + (I + 1 - at') = I + 1 by omega]
        have h255' : ((b[I].toNat : Nat) : Int) < 255 := by omega
        clear hl HI HN HP h255
        generalize b[I].toNat = x at *
        go_wp2_with fail
        exact HF.out
    · have hl := HI.out.none hlt
      have HF : Hid (P (.returned (.tuple #[.int .i64 0, .int .i64 b.length, .bool false])) wr) := by
        show P _ _
        rw [HP.out, hl]
        exact ⟨rfl, rfl⟩
      clear hl HI HN HP
      go_wp2_with fail
      exact HF.out
end Go.Proofs.Ytdeefemeiggolaa

namespace Go.Proofs.Ytdeefemeiggolaa
open Go.RowKit
set_option linter.unusedVariables false
/-- The struct of the ways to read. -/
def rdsV (B1 B2 B3 L : Nat) : List Value := [.int .i64 L, .func (.func 104) #[] #[.pointer (some ⟨B2, 0, none⟩)], .func (.func 102) #[] #[.pointer (some ⟨B1, 0, none⟩), .pointer (some ⟨B2, 0, none⟩)], .func (.func 103) #[] #[.pointer (some ⟨B3, 0, none⟩)]]
theorem new_heap (w : World) (o : Obj) : (w.alloc o).heap[w.heap.size]? = some o := by
  show (w.heap.push _)[w.heap.size]? = _
  simp
theorem new_cell (w : World) (cs : Array Value) (t : TypeId) (j : Nat) (v : Value) (h : cs[j]? = some v) : (w.alloc (.cells cs t)).cell? ⟨w.heap.size, j, none⟩ = some v := by
  simp only [World.cell?, new_heap]; exact h
theorem new_frozen (w : World) (cs : Array Value) (t : TypeId) (j : Nat) : (w.alloc (.cells cs t)).frozen? ⟨w.heap.size, j, none⟩ = false := by
  simp only [World.frozen?, new_heap]; simp
set_option maxHeartbeats 4000000 in
theorem readsOf_any (D : Nat) (a : Option Addr) (c : Nat) (b : List By) (w : World) (hD : D ≤ w.heap.size) (hb : b ≠ [] → ∃ g o, a = some ⟨g, o, none⟩ ∧ g < D ∧ Rd g o b w) (hc : b.length ≤ c) (hc2 : c < 9223372036854775808) (hs : b.length ≤ 140737488351232) :
    Calls Try.prog 99 #[.slice a b.length c] w fun e w' => ∃ B1 B2 B3, e = .returned (.agg (rdsV B1 B2 B3 b.length).toArray) ∧ Nw w w' ∧ Rds D B1 B2 B3 a c b 0 w' ∧ w.heap.size ≤ B1 ∧ w.heap.size ≤ B2 ∧ w.heap.size ≤ B3 := by
  obtain ⟨P, hP⟩ : ∃ P : Ending → World → Prop, P = fun e w' => ∃ B1 B2 B3, e = .returned (.agg (rdsV B1 B2 B3 b.length).toArray) ∧ Nw w w' ∧ Rds D B1 B2 B3 a c b 0 w' ∧ w.heap.size ≤ B1 ∧ w.heap.size ≤ B2 ∧ w.heap.size ≤ B3 := ⟨_, rfl⟩
  rw [← hP]
  have hP' : Hid (P = fun e w' => ∃ B1 B2 B3, e = .returned (.agg (rdsV B1 B2 B3 b.length).toArray) ∧ Nw w w' ∧ Rds D B1 B2 B3 a c b 0 w' ∧ w.heap.size ≤ B1 ∧ w.heap.size ≤ B2 ∧ w.heap.size ≤ B3) := hP
  have hb' : Hid (b ≠ [] → ∃ g o, a = some ⟨g, o, none⟩ ∧ g < D ∧ Rd g o b w) := hb
  clear hP hb
  have hmf : ∀ (fn : Fn) (first cap : Array Value) (w : World), (Instr.makeFunc fn first cap).run Try.prog w = .ok (.func fn first cap) w := fun _ _ _ _ => rfl
  go_enter Try.func99, Try.ntmps99
  go_wp2
  rw [hP'.out]
  go_returns
  refine ⟨w.heap.size, w.heap.size + 1 + 1, w.heap.size + 1 + 1 + 1, rfl, ?_, ?_, by omega, by omega, by omega⟩
  · exact ((((Fr.refl _ _).alloc _).alloc _).alloc _).alloc _
  · generalize hW1 : w.alloc (.cells #[.slice a b.length c] 22) = W1
    have k1 : W1.cell? ⟨w.heap.size, 0, none⟩ = some (.slice a b.length c) := by rw [← hW1]; exact new_cell _ _ _ _ _ rfl
    have s1 : W1.heap.size = w.heap.size + 1 := by rw [← hW1]; simp
    have n1 : Nw w W1 := by rw [← hW1]; exact (Fr.refl _ _).alloc _
    generalize hW2 : W1.alloc (.cells (rdsV w.heap.size (w.heap.size + 1 + 1) (w.heap.size + 1 + 1 + 1) b.length).toArray 160) = W2
    have s2 : W2.heap.size = w.heap.size + 1 + 1 := by rw [← hW2]; simp [s1]
    have n2 : Nw W1 W2 := by rw [← hW2]; exact (Fr.refl _ _).alloc _
    have e2 : W1.alloc (.cells #[.int .i64 b.length, .func (.func 104) #[] #[.pointer (some ⟨w.heap.size + 1 + 1, 0, none⟩)], .func (.func 102) #[] #[.pointer (some ⟨w.heap.size, 0, none⟩), .pointer (some ⟨w.heap.size + 1 + 1, 0, none⟩)], .func (.func 103) #[] #[.pointer (some ⟨w.heap.size + 1 + 1 + 1, 0, none⟩)]] 160) = W2 := hW2
    rw [e2]
    generalize hW3 : W2.alloc (.cells #[.int .i64 0] 3) = W3
    have s3 : W3.heap.size = w.heap.size + 1 + 1 + 1 := by rw [← hW3]; simp [s2]
    have n3 : Nw W2 W3 := by rw [← hW3]; exact (Fr.refl _ _).alloc _
    have k3 : W3.cell? ⟨w.heap.size + 1 + 1, 0, none⟩ = some (.int .i64 0) := by rw [← hW3, ← s2]; exact new_cell _ _ _ _ _ rfl
    have f3 : W3.frozen? ⟨w.heap.size + 1 + 1, 0, none⟩ = false := by rw [← hW3, ← s2]; exact new_frozen _ _ _ _
    generalize hW4 : W3.alloc _ = W4
    have n4 : Nw W3 W4 := by rw [← hW4]; exact (Fr.refl _ _).alloc _
    refine ⟨((n2.trans n3).trans n4).cell k1, n4.cell k3, (n4.frozen (p := ⟨w.heap.size + 1 + 1, 0, none⟩) (by simp only [s3]; omega) (fun h => h)).trans f3, ?_, fun hb => ?_, Nat.zero_le _, hc, hc2, hs, by omega, by omega, by omega⟩
    · rw [← hW4, ← s3]; exact new_cell _ _ _ _ _ rfl
    · obtain ⟨g, o, q1, q2, q3⟩ := hb'.out hb
      exact ⟨g, o, q1, q2, q3.nw (((n1.trans n2).trans n3).trans n4)⟩
/-- One that is told of sequences: what holds of it while it has taken s, with the blocks of K left alone. -/
structure Tkr {σ : Type} (T : Tk σ) (D : Nat) (ty : TypeId) (v : Value) (fR fP fC fM fE : Nat) (TI : σ → (Nat → Prop) → World → Prop) : Prop where
  mR : ∀ w, (method 280 ty v "satchel/lz.room").run Try.prog w = .ok (fR, v) w
  mP : ∀ w, (method 280 ty v "satchel/lz.plain").run Try.prog w = .ok (fP, v) w
  mC : ∀ w, (method 280 ty v "satchel/lz.reaches").run Try.prog w = .ok (fC, v) w
  mM : ∀ w, (method 280 ty v "satchel/lz.match").run Try.prog w = .ok (fM, v) w
  mE : ∀ w, (method 280 ty v "satchel/lz.end").run Try.prog w = .ok (fE, v) w
  eR : ∀ args w, (callFunc fR args).run Try.prog w = .ok (.enter fR args) w
  eP : ∀ args w, (callFunc fP args).run Try.prog w = .ok (.enter fP args) w
  eC : ∀ args w, (callFunc fC args).run Try.prog w = .ok (.enter fC args) w
  eM : ∀ args w, (callFunc fM args).run Try.prog w = .ok (.enter fM args) w
  eE : ∀ args w, (callFunc fE args).run Try.prog w = .ok (.enter fE args) w
  grow : ∀ {s K K' w w'}, TI s K w → Nw w w' → (∀ k, K' k → K k ∨ w.heap.size ≤ k) → TI s K' w'
  keep : ∀ {s} {K : Nat → Prop} {X : Nat → Prop} {w w'}, TI s K w → Fr X w w' → (∀ k, X k → K k ∧ D ≤ k) → TI s K w'
  room : ∀ {s K w} (n : Nat), TI s K w → n < 4611686018427387904 → Calls Try.prog fR #[v, .int .i64 n] w fun e w' => e = .returned (.bool (T.room s n)) ∧ Nw w w'
  plain : ∀ {s} {K : Nat → Prop} {w} {u : Value} {p : List By}, TI s K w → (∀ k, k < D → K k) → (∀ k, K k → k < w.heap.size) → Sl (fun k => D ≤ k) u p w → p.length < 4611686018427387904 → T.room s p.length = true → Calls Try.prog fP #[v, u] w fun e w' => (∃ r, e = .returned r) ∧ TI (T.plain s p) K w' ∧ Fr (fun k => ¬ K k) w w'
  reaches : ∀ {s K w} (n : Nat), TI s K w → n < 65536 → Calls Try.prog fC #[v, .int .i64 n] w fun e w' => e = .returned (.bool (T.reaches s n)) ∧ Nw w w'
  mat : ∀ {s} {K : Nat → Prop} {w} (back n : Nat), TI s K w → (∀ k, k < D → K k) → (∀ k, K k → k < w.heap.size) → 1 ≤ back → back < 65536 → n < 4611686018427387904 → T.reaches s back = true → T.room s n = true → Calls Try.prog fM #[v, .int .i64 back, .int .i64 n] w fun e w' => (∃ r, e = .returned r) ∧ TI (T.mat s back n) K w' ∧ Fr (fun k => ¬ K k) w w'
  fin : ∀ {s} {K : Nat → Prop} {w}, TI s K w → (∀ k, k < D → K k) → (∀ k, K k → k < w.heap.size) → Calls Try.prog fE #[v] w fun e w' => (∃ r, e = .returned r) ∧ TI (T.fin s) K w' ∧ Fr (fun k => ¬ K k) w w'
/-- The blocks that are left alone. -/
structure KK (K : Nat → Prop) (D B1 B2 B3 : Nat) (w : World) : Prop where
  d : ∀ k, k < D → K k
  b1 : K B1
  b2 : K B2
  b3 : K B3
  lt : ∀ k, K k → k < w.heap.size
/-- What a step of the scan answers. -/
def Stepd {σ : Type} (TI : σ → (Nat → Prop) → World → Prop) (D B1 B2 B3 : Nat) (a : Option Addr) (c : Nat) (b : List By) (K : Nat → Prop) (r : Pt σ) (w : World) (e : Ending) (w' : World) : Prop :=
  Fr (fun k => ¬ K k ∨ k = B2) w w' ∧ match r with
  | .bad x y => e = .returned (.tuple #[.int .i64 x, .int .i64 y]) ∧ y ≠ 0
  | .ok r s => e = .returned (.tuple #[.int .i64 0, .int .i64 0]) ∧ ∃ i, r = b.drop i ∧ Rds D B1 B2 B3 a c b i w' ∧ TI s K w'
end Go.Proofs.Ytdeefemeiggolaa
