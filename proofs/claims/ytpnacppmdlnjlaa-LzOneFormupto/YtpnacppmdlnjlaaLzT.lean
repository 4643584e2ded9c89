import Derived.Test.YtpnacppmdlnjlaaLzS
namespace Go.Proofs.Ytpnacppmdlnjlaa
open Go.RowKit
set_option linter.unusedVariables false
/-- A match, as the document's match tells it: back, length, where it ends, why not. -/
def mtc (b : List By) (lo i : Nat) : Nat × Nat × Nat × Nat :=
  match b.drop i with
  | x :: y :: r => if x.toNat + 256 * y.toNat = 0 then (0, 0, i, 30) else match num lo r with
    | none => (0, 0, b.length, 4)
    | some (n, k) => (x.toNat + 256 * y.toNat, n + 4, i + 2 + k, 0)
  | _ => (0, 0, b.length, 4)
def Mtcd (r : Nat × Nat × Nat × Nat) (w : World) (e : Ending) (w' : World) : Prop :=
  e = .returned (.tuple #[.int .i64 r.1, .int .i64 r.2.1, .int .i64 r.2.2.1, .int .i64 r.2.2.2]) ∧ Nw w w'
set_option maxHeartbeats 8000000 in
set_option maxRecDepth 100000 in
theorem rmatch_any (a : Option Addr) (c : Nat) (b : List By) (w : World) (h : In a c b w) (t i : Nat) (ht : t < b.length) (hi : i ≤ b.length) :
    Calls Try.prog 31 #[.slice a b.length c, .int .i64 t, .int .i64 i] w (Mtcd (mtc b (b[t].toNat % 16) i) w) := by
  obtain ⟨P, hP⟩ : ∃ P, P = Mtcd (mtc b (b[t].toNat % 16) i) w := ⟨_, rfl⟩
  rw [← hP]
  have HP : Hid (P = Mtcd (mtc b (b[t].toNat % 16) i) w) := hP
  clear hP
  have hb1 := h.1
  have hb2 := h.2.1
  have hb3 := h.2.2.1
  by_cases h2 : b.length < i + 2
  · have HF : Hid (∀ V, Nw w V → P (.returned (.tuple #[.int .i64 0, .int .i64 0, .int .i64 b.length, .int .i64 4])) V) := fun V hV => by
      rw [HP.out]
      refine ⟨?_, hV⟩
      have hl2 : (b.drop i).length < 2 := by simp; omega
      unfold mtc
      match hm : b.drop i, hl2 with
      | [], _ => rfl
      | [x], _ => rfl
      | x :: y :: r, h => simp at h; omega
    clear HP h
    go_enter Try.func31, Try.ntmps31
    go_wp2_with fail
    try go_returns
    exact HF.out _ (Fr.refl _ _)
  · have hx : i < b.length := by omega
    have hy : i + 1 < b.length := by omega
    obtain ⟨g, o, rfl, hrd⟩ := h.2.2.2 (by intro e; rw [e] at hx; simp at hx)
    have c0 : w.cell? ⟨g, o + i, none⟩ = some (.int .u8 b[i].toNat) := hrd i hx
    have c1 : w.cell? ⟨g, o + (i + 1), none⟩ = some (.int .u8 b[i + 1].toNat) := hrd (i + 1) hy
    have c2 : w.cell? ⟨g, o + t, none⟩ = some (.int .u8 b[t].toNat) := hrd t ht
    have hdr : b.drop i = b[i] :: b[i + 1] :: b.drop (i + 2) := by rw [List.drop_eq_getElem_cons hx, List.drop_eq_getElem_cons hy]
    have hxl := b[i].isLt
    have hyl := b[i + 1].isLt
    have htl := b[t].isLt
    have hM : mtc b (b[t].toNat % 16) i = if b[i].toNat + 256 * b[i + 1].toNat = 0 then (0, 0, i, 30) else match num (b[t].toNat % 16) (b.drop (i + 2)) with
      | none => (0, 0, b.length, 4)
      | some (n, k) => (b[i].toNat + 256 * b[i + 1].toNat, n + 4, i + 2 + k, 0) := by
      unfold mtc
      rw [hdr]
    have hlen : (b.drop (i + 2)).length = b.length - (i + 2) := by simp
    have HR : Hid (∀ V, Nw w V → Calls Try.prog 44 #[.slice (some ⟨g, o, none⟩) b.length c, .int .i64 ((i : Int) + 2)] V (Readd b (i + 2) (num 15 (b.drop (i + 2))) V)) := fun V hV => by
      exact rread_any (some ⟨g, o, none⟩) c b V (h.nw hV) (i + 2) (by omega)
    by_cases h0 : b[i].toNat + 256 * b[i + 1].toNat = 0
    · have HF : Hid (∀ V, Nw w V → P (.returned (.tuple #[.int .i64 0, .int .i64 0, .int .i64 i, .int .i64 30])) V) := fun V hV => by
        rw [HP.out, hM, if_pos h0]
        exact ⟨rfl, hV⟩
      obtain ⟨e1, e2⟩ : b[i].toNat = 0 ∧ b[i + 1].toNat = 0 := by omega
      rw [e1] at c0
      rw [e2] at c1
      clear HP h hrd hM hdr HR e1 e2 h0
      go_enter Try.func31, Try.ntmps31
      go_wp2_with fail
      go_quiet (fail)
      go_wp2_with fail
      try go_returns
      exact HF.out _ ((Fr.refl _ _).drewN _)
    · rw [if_neg h0] at hM
      have h0' : ¬ ((b[i].toNat : Nat) : Int) + 256 * ((b[i + 1].toNat : Nat) : Int) = 0 := by omega
      by_cases h15 : b[t].toNat % 16 = 15
      · have hz : ((b[t].toNat : Nat) : Int) % 16 = 15 := by omega
        cases hn : num (b[t].toNat % 16) (b.drop (i + 2)) with
        | none =>
          simp only [hn] at hM
          rw [h15] at hn
          have HR' : Hid (∀ V, Nw w V → Calls Try.prog 44 #[.slice (some ⟨g, o, none⟩) b.length c, .int .i64 ((i : Int) + 2)] V fun e w' => e = .returned (.tuple #[.int .i64 0, .int .i64 b.length, .bool false]) ∧ w' = V) := fun V hV => by
            refine (HR.out V hV).mono ?_
            rw [hn]
            rintro e w' ⟨h1, h2⟩
            exact ⟨h2, h1⟩
          have HF : Hid (∀ V, Nw w V → P (.returned (.tuple #[.int .i64 0, .int .i64 0, .int .i64 b.length, .int .i64 4])) V) := fun V hV => by
            rw [HP.out, hM]
            exact ⟨rfl, hV⟩
          clear HP h hrd hM hdr HR h0 hn h15
          generalize b[i].toNat = X at *
          generalize b[i + 1].toNat = Y at *
          generalize b[t].toNat = Z at *
          go_enter Try.func31, Try.ntmps31
          go_wp2_with fail
          go_quiet (fail)
          go_wp2_with (first | (go_at_call 44; with_reducible refine (HR'.out _ ((Fr.refl _ _).drewN _)).mono ?_; rintro e w3 ⟨rfl, rfl⟩))
          try go_returns
          exact HF.out _ ((Fr.refl _ _).drewN _)
        | some p =>
          obtain ⟨n, k⟩ := p
          have hnk := num_le hn (by omega)
          rw [hlen] at hnk
          simp only [hn] at hM
          rw [h15] at hn
          have HR' : Hid (∀ V, Nw w V → Calls Try.prog 44 #[.slice (some ⟨g, o, none⟩) b.length c, .int .i64 ((i : Int) + 2)] V fun e w' => e = .returned (.tuple #[.int .i64 n, .int .i64 (i + 2 + k : Nat), .bool true]) ∧ w' = V) := fun V hV => by
            refine (HR.out V hV).mono ?_
            rw [hn]
            rintro e w' ⟨h1, h2⟩
            exact ⟨h2, h1⟩
          have HF : Hid (∀ V, Nw w V → P (.returned (.tuple #[.int .i64 (((b[i].toNat : Nat) : Int) + 256 * ((b[i + 1].toNat : Nat) : Int)), .int .i64 ((n : Int) + 4), .int .i64 (i + 2 + k : Nat), .int .i64 0])) V) := fun V hV => by
            rw [HP.out, hM]
            exact ⟨rfl, hV⟩
          clear HP h hrd hM hdr HR h0 hn h15
          generalize b[i].toNat = X at *
          generalize b[i + 1].toNat = Y at *
          generalize b[t].toNat = Z at *
          generalize hf : i + 2 + k = f at *
          have hnb : n ≤ 15 + 255 * b.length := by omega
          clear hf hnk
          go_enter Try.func31, Try.ntmps31
          go_wp2_with fail
          go_quiet (fail)
          go_wp2_with (first | (go_at_call 44; with_reducible refine (HR'.out _ ((Fr.refl _ _).drewN _)).mono ?_; rintro e w3 ⟨rfl, rfl⟩))
          try go_returns
          exact HF.out _ ((Fr.refl _ _).drewN _)
      · have hz : ¬ ((b[t].toNat : Nat) : Int) % 16 = 15 := by omega
        have hn : num (b[t].toNat % 16) (b.drop (i + 2)) = some (b[t].toNat % 16, 0) := by simp [num, h15]
        simp only [hn] at hM
        have HF : Hid (∀ V, Nw w V → P (.returned (.tuple #[.int .i64 (((b[i].toNat : Nat) : Int) + 256 * ((b[i + 1].toNat : Nat) : Int)), .int .i64 (((b[t].toNat : Nat) : Int) % 16 + 4), .int .i64 ((i : Int) + 2), .int .i64 0])) V) := fun V hV => by
          rw [HP.out, hM]
          exact ⟨rfl, hV⟩
        clear HP h hrd hM hdr HR h0 hn h15
        generalize b[i].toNat = X at *
        generalize b[i + 1].toNat = Y at *
        generalize b[t].toNat = Z at *
        go_enter Try.func31, Try.ntmps31
        go_wp2_with fail
        go_quiet (fail)
        go_wp2_with fail
        try go_returns
        exact HF.out _ ((Fr.refl _ _).drewN _)
end Go.Proofs.Ytpnacppmdlnjlaa
