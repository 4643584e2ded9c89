import Derived.Test.YtpnacppmdlnjlaaLzR
import Derived.Test.YtpnacppmdlnjlaaLzE
namespace Go.Proofs.Ytpnacppmdlnjlaa
open Go.RowKit
set_option linter.unusedVariables false
/-- A sequence's head, as begin tells it: where Plain begins, where it ends, whether it is numbered. -/
def beg (b : List By) (i : Nat) : Nat × Nat × Bool :=
  match b.drop i with
  | [] => (0, 0, false)
  | tok :: r => match num (tok.toNat / 16) r with
    | none => (b.length, b.length, false)
    | some (n, k) => (i + 1 + k, i + 1 + k + n, true)
def Begd (b : List By) (i : Nat) (w : World) (e : Ending) (w' : World) : Prop :=
  e = .returned (.agg #[.int .i64 i, .int .i64 (beg b i).1, .int .i64 (beg b i).2.1, .bool (beg b i).2.2]) ∧ Nw w w'
theorem In.nw {a : Option Addr} {c : Nat} {b : List By} {w w' : World} (h : In a c b w) (f : Nw w w') : In a c b w' := ⟨h.1, h.2.1, h.2.2.1, fun hb => by
  obtain ⟨g, o, h1, h2⟩ := h.2.2.2 hb
  exact ⟨g, o, h1, h2.nw f⟩⟩
set_option maxHeartbeats 8000000 in
set_option maxRecDepth 100000 in
theorem rbegin_any (a : Option Addr) (c : Nat) (b : List By) (w : World) (h : In a c b w) (i : Nat) (hi : i ≤ b.length) :
    Calls Try.prog 30 #[.slice a b.length c, .int .i64 i] w (Begd b i w) := by
  obtain ⟨P, hP⟩ : ∃ P, P = Begd b i w := ⟨_, rfl⟩
  rw [← hP]
  have HP : Hid (P = Begd b i w) := hP
  clear hP
  have hb1 := h.1
  have hb2 := h.2.1
  have hb3 := h.2.2.1
  by_cases hlt : i < b.length
  · obtain ⟨g, o, rfl, hcell⟩ := h.at i hlt
    have hx := b[i].isLt
    have hgl : g < w.heap.size := World.block_lt_of_cell? _ _ hcell
    have hg1 : ¬ g = w.heap.size := by omega
    have hg2 : ¬ g = w.heap.size + 1 := by omega
    have hdr : b.drop i = b[i] :: b.drop (i + 1) := List.drop_eq_getElem_cons hlt
    have hlen : (b.drop (i + 1)).length = b.length - (i + 1) := by simp
    by_cases h15 : b[i].toNat / 16 = 15
    · have HR : Hid (∀ V, Nw w V → Calls Try.prog 44 #[.slice (some ⟨g, o, none⟩) b.length c, .int .i64 ((i : Int) + 1)] V (Readd b (i + 1) (num (b[i].toNat / 16) (b.drop (i + 1))) V)) := fun V hV => by
        have := rread_any (some ⟨g, o, none⟩) c b V (h.nw hV) (i + 1) (by omega)
        rw [h15]
        exact this
      have hz : ((b[i].toNat : Nat) : Int) / 16 = 15 := by omega
      cases hn : num (b[i].toNat / 16) (b.drop (i + 1)) with
      | none =>
        have HR' : Hid (∀ V, Nw w V → Calls Try.prog 44 #[.slice (some ⟨g, o, none⟩) b.length c, .int .i64 ((i : Int) + 1)] V fun e w' => e = .returned (.tuple #[.int .i64 0, .int .i64 b.length, .bool false]) ∧ w' = V) := fun V hV => by
          refine (HR.out V hV).mono ?_
          rw [hn]
          rintro e w' ⟨h1, h2⟩
          exact ⟨h2, h1⟩
        have HF : Hid (∀ V, Nw w V → P (.returned (.agg #[.int .i64 i, .int .i64 b.length, .int .i64 b.length, .bool false])) V) := fun V hV => by
          rw [HP.out]
          refine ⟨?_, hV⟩
          simp only [beg, hdr, hn]
        have hN2 : Hid (∀ o1 o2, Nw w ((w.alloc o1).alloc o2)) := fun o1 o2 => ((Fr.refl _ _).alloc _).alloc _
        clear HR hn HP h hdr
        generalize b[i].toNat = tok at *
        go_enter Try.func30, Try.ntmps30
        go_wp2_with (first | (go_at_call 44; with_reducible refine (HR'.out _ (hN2.out _ _)).mono ?_; rintro e w3 ⟨rfl, rfl⟩))
        try go_returns
        exact HF.out _ (((Fr.refl _ _).alloc _).alloc _)
      | some p =>
        obtain ⟨n, k⟩ := p
        have hnk := num_le hn (by omega)
        have HR' : Hid (∀ V, Nw w V → Calls Try.prog 44 #[.slice (some ⟨g, o, none⟩) b.length c, .int .i64 ((i : Int) + 1)] V fun e w' => e = .returned (.tuple #[.int .i64 n, .int .i64 (i + 1 + k : Nat), .bool true]) ∧ w' = V) := fun V hV => by
          refine (HR.out V hV).mono ?_
          rw [hn]
          rintro e w' ⟨h1, h2⟩
          exact ⟨h2, h1⟩
        have HF : Hid (∀ V, Nw w V → P (.returned (.agg #[.int .i64 i, .int .i64 (i + 1 + k : Nat), .int .i64 ((i + 1 + k : Nat) + (n : Nat)), .bool true])) V) := fun V hV => by
          rw [HP.out]
          refine ⟨?_, hV⟩
          simp only [beg, hdr, hn]
          rw [← Int.natCast_add]
        have hN2 : Hid (∀ o1 o2, Nw w ((w.alloc o1).alloc o2)) := fun o1 o2 => ((Fr.refl _ _).alloc _).alloc _
        clear HR hn HP h hdr
        generalize b[i].toNat = tok at *
        generalize hf : i + 1 + k = f at *
        have hfb : f ≤ b.length := by omega
        have hnb : n ≤ 15 + 255 * b.length := by omega
        clear hf
        go_enter Try.func30, Try.ntmps30
        go_wp2_with (first | (go_at_call 44; with_reducible refine (HR'.out _ (hN2.out _ _)).mono ?_; rintro e w3 ⟨rfl, rfl⟩))
        try go_returns
        exact HF.out _ (((Fr.refl _ _).alloc _).alloc _)
    · have hz : ¬ ((b[i].toNat : Nat) : Int) / 16 = 15 := by omega
      have hn : num (b[i].toNat / 16) (b.drop (i + 1)) = some (b[i].toNat / 16, 0) := by simp [num, h15]
      have HF : Hid (∀ V, Nw w V → P (.returned (.agg #[.int .i64 i, .int .i64 ((i : Int) + 1), .int .i64 ((i : Int) + 1 + ((b[i].toNat : Nat) : Int) / 16), .bool true])) V) := fun V hV => by
        rw [HP.out]
        refine ⟨?_, hV⟩
        simp only [beg, hdr, hn]
        rfl
      clear hn HP h hdr
      generalize b[i].toNat = tok at *
      go_enter Try.func30, Try.ntmps30
      go_wp2_with fail
      try go_returns
      exact HF.out _ (((Fr.refl _ _).alloc _).alloc _)
  · have HF : Hid (∀ V, Nw w V → P (.returned (.agg #[.int .i64 i, .int .i64 0, .int .i64 0, .bool false])) V) := fun V hV => by
      rw [HP.out]
      refine ⟨?_, hV⟩
      have hd : b.drop i = [] := by simp; omega
      simp only [beg, hd]
      rfl
    clear HP h
    go_enter Try.func30, Try.ntmps30
    go_wp2_with fail
    try go_returns
    exact HF.out _ (((Fr.refl _ _).alloc _).alloc _)
end Go.Proofs.Ytpnacppmdlnjlaa
