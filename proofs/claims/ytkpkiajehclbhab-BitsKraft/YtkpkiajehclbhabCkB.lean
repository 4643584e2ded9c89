import Derived.Test.YtkpkiajehclbhabCkA
import Derived.Test.YtkpkiajehclbhabBiE
namespace Go.Proofs.Ytkpkiajehclbhab
open Go.RowKit
set_option linter.unusedVariables false
/-- What NewCode told. -/
def KR (zs : List Int) (pc : Option Addr) (er : Nat) (w1 : World) : Prop := (¬ IsCode zs ∧ pc = none ∧ er = 51) ∨ ∃ ls cb gw gs ws ss, zs = toI ls ∧ Cod ls ∧ pc = some ⟨cb, 0, none⟩ ∧ er = 0 ∧ CodeI cb gw gs ls ws ss w1
theorem newCode_kr (w : World) (v : Value) (zs : List Int) (h : SlR RI (fun k => w.heap.size ≤ k) v zs w) (hl : zs.length ≤ 17592186043904) : Calls Try.prog 4 #[v] w fun e w1 => ∃ pc er, e = .returned (.tuple #[.pointer pc, .int .i64 (er : Nat)]) ∧ KR zs pc er w1 ∧ Nw w w1 := by
  by_cases hc : IsCode zs
  · obtain ⟨ls, rfl, hk⟩ := hc
    refine (newCode_yes w v ls h hk).mono ?_
    rintro e w1 ⟨cb, gw, gs, ws, ss, rfl, h1, h2, _⟩
    exact ⟨_, 0, rfl, .inr ⟨ls, cb, gw, gs, ws, ss, rfl, hk, rfl, rfl, h1⟩, h2⟩
  · refine (newCode_no w v zs h hl hc).mono ?_
    rintro e w1 ⟨rfl, h1⟩
    exact ⟨_, 51, rfl, .inl ⟨hc, rfl, rfl⟩, h1⟩
/-- The two bytes of a row. -/
def rowB (r : Nat) : List By := [BitVec.ofNat 8 (r % 256), BitVec.ofNat 8 (r / 256)]
theorem rowB_le (r : Nat) (h : r < 65536) : le (rowB r) = r := by
  simp only [rowB, le, BitVec.toNat_ofNat]
  omega
theorem rowB_sl (w : World) (r : Nat) (h : r < 65536) : Sl (fun k => w.heap.size < k) (.slice (some ⟨w.heap.size, 0, none⟩) 2 2) (rowB r) (w.alloc (.cells #[.int .u8 ((r % 256 : Nat) : Int), .int .u8 ((r / 256 : Nat) : Int)] 5)) := by
  have hr := new_heap w (.cells #[.int .u8 ((r % 256 : Nat) : Int), .int .u8 ((r / 256 : Nat) : Int)] 5)
  refine .inr ⟨w.heap.size, by omega, 0, 2, rfl, by simp [rowB], by decide, ?_⟩
  intro j hj
  have hj2 : j = 0 ∨ j = 1 := by simp [rowB] at hj; omega
  have q1 : r % 256 % 256 = r % 256 := by omega
  have q2 : r / 256 % 256 = r / 256 := by omega
  rcases hj2 with rfl | rfl
  · refine (row_cell hr 0 _ ?_).1
    simp [rowB, bv]
  · refine (row_cell hr 1 _ ?_).1
    simp [rowB, bv]
    omega
/-- How it stands with a reader. -/
structure KrR (w : World) (ls : List Nat) (cb gw gs rb : Nat) (vb : Value) (row p : Nat) (wr : World) : Prop where
  c : ∃ ws ss, CodeI cb gw gs ls ws ss wr
  r : ∃ K, Rr 54 K rb vb (rowB row) p wr
  n1 : rb ≠ cb
  n2 : rb ≠ gw
  n3 : rb ≠ gs
  nw : Nw w wr
  h4 : w.heap.size ≤ rb
  pl : p ≤ 16
variable {w : World} {ls : List Nat} {cb gw gs rb : Nat} {vb : Value} {row p : Nat} {wr : World}
theorem KrR.keep {V : World} (h : KrR w ls cb gw gs rb vb row p wr) (f : Nw wr V) : KrR w ls cb gw gs rb vb row p V := by
  obtain ⟨ws, ss, h1⟩ := h.c
  obtain ⟨K, h2⟩ := h.r
  exact ⟨⟨ws, ss, h1.nw f⟩, ⟨K, h2.nw f⟩, h.n1, h.n2, h.n3, h.nw.trans f, h.h4, h.pl⟩
theorem kr_reader {ws : List (Nat × Nat)} {ss : List Int} (hc : CodeI cb gw gs ls ws ss wr) (hN : Nw w wr) (row : Nat) (h : row < 65536) :
    Hid (Calls Try.prog 5 #[.slice (some ⟨wr.heap.size, 0, none⟩) 2 2] (wr.alloc (.cells #[.int .u8 ((row : Int) % 256), .int .u8 ((row : Int) / 256)] 5)) fun e w2 => ∃ rb, e = .returned (.pointer (some ⟨rb, 0, none⟩)) ∧ Hid (KrR w ls cb gw gs rb (.slice (some ⟨wr.heap.size, 0, none⟩) 2 2) row 0 w2)) := by
  have q1 : ((row : Int) % 256) = ((row % 256 : Nat) : Int) := by omega
  have q2 : ((row : Int) / 256) = ((row / 256 : Nat) : Int) := by omega
  rw [q1, q2]
  have e : (wr.alloc (.cells #[.int .u8 ((row % 256 : Nat) : Int), .int .u8 ((row / 256 : Nat) : Int)] 5)).heap.size = wr.heap.size + 1 := by simp
  have hN1 : Nw wr (wr.alloc (.cells #[.int .u8 ((row % 256 : Nat) : Int), .int .u8 ((row / 256 : Nat) : Int)] 5)) := (Fr.refl _ _).alloc _
  refine (newReader_any _ _ _ (rowB row) (rowB_sl wr row h) (by rw [e]; omega) (by simp [rowB])).mono ?_
  rintro e2 w2 ⟨rfl, h1, h2⟩
  obtain ⟨z1, z2, z3⟩ := hc.c.lt
  have hs := hN.size
  exact ⟨_, rfl, ⟨⟨ws, ss, hc.nw (hN1.trans h2)⟩, ⟨_, h1⟩, by rw [e]; omega, by rw [e]; omega, by rw [e]; omega, hN.trans (hN1.trans h2), by rw [e]; omega, by omega⟩⟩
theorem KrR.whole (h : KrR w ls cb gw gs rb vb row p wr) (hk : Cod ls) : Hid (Calls Try.prog 6 #[.pointer (some ⟨cb, 0, none⟩)] wr fun e w2 => e = .returned (.bool (decide (room ls = 32768))) ∧ Hid (KrR w ls cb gw gs rb vb row p w2)) := by
  obtain ⟨ws, ss, h1⟩ := h.c
  refine (whole_any h1 hk).mono ?_
  rintro e w2 ⟨rfl, hN⟩
  exact ⟨rfl, h.keep hN⟩
theorem KrR.left (h : KrR w ls cb gw gs rb vb row p wr) : Hid (Calls Try.prog 9 #[.pointer (some ⟨rb, 0, none⟩)] wr fun e w2 => e = .returned (.int .i64 ((16 - p : Nat) : Int)) ∧ Hid (KrR w ls cb gw gs rb vb row p w2)) := by
  obtain ⟨K, h1⟩ := h.r
  have hl : (rowB row).length = 2 := rfl
  have hp := h.pl
  refine (left_any h1 (by rw [hl]; omega)).mono ?_
  rintro e w2 ⟨rfl, hN⟩
  exact ⟨by rw [hl], h.keep hN⟩
/-- What Read tells: a symbol whose word begins the row, or none. -/
theorem KrR.read (h : KrR w ls cb gw gs rb vb row 0 wr) (hk : Cod ls) (hr : row < 65536) : Hid (Calls Try.prog 7 #[.pointer (some ⟨cb, 0, none⟩), .pointer (some ⟨rb, 0, none⟩)] wr fun e w2 =>
    (∃ i : Nat, e = .returned (.tuple #[.int .i64 i, .int .i64 0]) ∧ i < ls.length ∧ ls.getD i 0 ≠ 0 ∧ row % 2 ^ ls.getD i 0 = (wdP ls i).1 ∧ Hid (KrR w ls cb gw gs rb vb row (ls.getD i 0) w2)) ∨
    (e = .returned (.tuple #[.int .i64 0, .int .i64 52]) ∧ room ls ≠ 32768 ∧ Hid (KrR w ls cb gw gs rb vb row 0 w2))) := by
  obtain ⟨ws, ss, h1⟩ := h.c
  obtain ⟨K, h2⟩ := h.r
  have hl : (rowB row).length = 2 := rfl
  refine (read_any h1 hk h2 (by omega) h.n1 h.n2 h.n3).mono ?_
  intro e w2 hA
  unfold ReadA at hA
  rw [rowB_le row hr, Nat.pow_zero, Nat.div_one, hl] at hA
  have h4 := h.h4
  rcases hA with ⟨j, a1, a2, rfl, a4, a5⟩ | ⟨j, a1, a2, rfl, a4⟩ | ⟨a1, rfl, a3⟩
  · refine .inl ⟨j, rfl, a1.1, a1.2.1, ?_, ⟨⟨ws, ss, h1.kept a5 (fun e => h.n1 e.symm) (fun e => h.n2 e.symm) (fun e => h.n3 e.symm)⟩, ⟨K, by rw [Nat.zero_add] at a4; exact a4⟩, h.n1, h.n2, h.n3, Fr.then h.nw a5 (fun k hk => .inr (by omega)), h.h4, by have := hk.each j; omega⟩⟩
    have := (hits_iff hk row j a1.1 a1.2.1).1 a1
    rw [this]
    unfold wdP
    rw [if_neg a1.2.1]
  · have := hk.each j
    omega
  · refine .inr ⟨rfl, ?_, h.keep a3⟩
    have h15 := a1 15 (by decide)
    have := rev_lt 15 row
    rw [Nat.sub_self, Nat.pow_zero, Nat.div_one] at h15
    unfold room
    omega
theorem KrR.word (h : KrR w ls cb gw gs rb vb row p wr) (hk : Cod ls) (i : Nat) (hi : i < ls.length) (h0 : ls.getD i 0 ≠ 0) : Hid (Calls Try.prog 8 #[.pointer (some ⟨cb, 0, none⟩), .int .i64 i] wr fun e w2 => e = .returned (.tuple #[.agg #[.int .u32 (wdP ls i).1, .int .i64 (ls.getD i 0 : Nat)], .int .i64 0]) ∧ Hid (KrR w ls cb gw gs rb vb row p w2)) := by
  obtain ⟨ws, ss, h1⟩ := h.c
  refine (word_any h1 hk i).mono ?_
  rintro e w2 ⟨rfl, hN⟩
  have e : wordA ls i = (wdP ls i, 0) := by unfold wordA; rw [if_neg (by omega), Int.toNat_natCast, if_neg h0]
  refine ⟨?_, h.keep hN⟩
  rw [e]
  have e2 : (wdP ls i).2 = ls.getD i 0 := by unfold wdP; rw [if_neg h0]
  unfold wordV
  rw [← e2]; rfl
theorem box_wordK (W : World) (a b : Value) : (W.alloc (.cells #[a, b] 37)).heap[W.heap.size]? = some (.cells #[a, b] 37) ∧ Nw W (W.alloc (.cells #[a, b] 37)) := ⟨new_heap _ _, (Fr.refl _ _).alloc _⟩
end Go.Proofs.Ytkpkiajehclbhab
