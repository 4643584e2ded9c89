import Derived.Test.YtdeefemeiggolaaQg
import Derived.Lib.AppendZeros
import Derived.Laws.MakeOwn
namespace Go.Proofs.Ytdeefemeiggolaa
open Go.RowKit
set_option linter.unusedVariables false
/-- A sequence's head, as begin tells it: where Plain begins, where it ends, whether it is numbered. -/
def beg (b : List By) (i : Nat) : Nat × Nat × Bool :=
  match b.drop i with
  | [] => (0, 0, false)
  | tok :: r => match num (tok.toNat / 16) r with
    | none => (b.length, b.length, false)
    | some (n, k) => (i + 1 + k, i + 1 + k + n, true)
def Begd (b : List By) (i : Nat) (w : World) (e : Ending) (w' : World) : Prop :=
  e = .returned (.agg #[.int .i64 i, .int .i64 (beg b i).1, .int .i64 (beg b i).2.1, .bool (beg b i).2.2]) ∧ Nw w w'
theorem In.nw {a : Option Addr} {c : Nat} {b : List By} {w w' : World} (h : In a c b w) (f : Nw w w') : In a c b w' := ⟨h.1, h.2.1, h.2.2.1, fun hb => by
  obtain ⟨g, o, h1, h2⟩ := h.2.2.2 hb
  exact ⟨g, o, h1, h2.nw f⟩⟩
set_option maxHeartbeats 8000000 in
set_option maxRecDepth 100000 in
theorem rbegin_any (a : Option Addr) (c : Nat) (b : List By) (w : World) (h : In a c b w) (i : Nat) (hi : i ≤ b.length) :
    Calls Try.prog 79 #[.slice a b.length c, .int .i64 i] w (Begd b i w) := by
  obtain ⟨P, hP⟩ : ∃ P, P = Begd b i w := ⟨_, rfl⟩
  rw [← hP]
  have HP : Hid (P = Begd b i w) := hP
  clear hP
  have hb1 := h.1
  have hb2 := h.2.1
  have hb3 := h.2.2.1
  by_cases hlt : i < b.length
  · obtain ⟨g, o, rfl, hcell⟩ := h.at i hlt
    have hx := b[i].isLt
    have hgl : g < w.heap.size := World.block_lt_of_cell? _ _ hcell
    have hg1 : ¬ g = w.heap.size := by omega
    have hg2 : ¬ g = w.heap.size + 1 := by omega
    have hdr : b.drop i = b[i] :: b.drop (i + 1) := List.drop_eq_getElem_cons hlt
    have hlen : (b.drop (i + 1)).length = b.length - (i + 1) := by simp
    by_cases h15 : b[i].toNat / 16 = 15
    · have HR : Hid (∀ V, Nw w V → Calls Try.prog 95 #[.slice (some ⟨g, o, none⟩) b.length c, .int .i64 ((i : Int) + 1)] V (Readd b (i + 1) (num (b[i].toNat / 16) (b.drop (i + 1))) V)) := fun V hV => by
        have := rread_any (some ⟨g, o, none⟩) c b V (h.nw hV) (i + 1) (by omega)
        rw [h15]
        exact this
      have hz : ((b[i].toNat : Nat) : Int) / 16 = 15 := by omega
      cases hn : num (b[i].toNat / 16) (b.drop (i + 1)) with
      | none =>
        have HR' : Hid (∀ V, Nw w V → Calls Try.prog 95 #[.slice (some ⟨g, o, none⟩) b.length c, .int .i64 ((i : Int) + 1)] V fun e w' => e = .returned (.tuple #[.int .i64 0, .int .i64 b.length, .bool false]) ∧ w' = V) := fun V hV => by
          refine (HR.out V hV).mono ?_
          rw [hn]
          rintro e w' ⟨h1, h2⟩
          exact ⟨h2, h1⟩
        have HF : Hid (∀ V, Nw w V → P (.returned (.agg #[.int .i64 i, .int .i64 b.length, .int .i64 b.length, .bool false])) V) := fun V hV => by
          rw [HP.out]
          refine ⟨?_, hV⟩
          simp only [beg, hdr, hn]
        have hN2 : Hid (∀ o1 o2, Nw w ((w.alloc o1).alloc o2)) := fun o1 o2 => ((Fr.refl _ _).alloc _).alloc _
        clear HR hn HP h hdr
        generalize b[i].toNat = tok at *
        go_enter Try.func79, Try.ntmps79
        go_wp2_with (first | (go_at_call 95; with_reducible refine (HR'.out _ (hN2.out _ _)).mono ?_; rintro e w3 ⟨rfl, rfl⟩))
        try go_returns
        exact HF.out _ (((Fr.refl _ _).alloc _).alloc _)
      | some p =>
        obtain ⟨n, k⟩ := p
        have hnk := num_le hn (by omega)
        have HR' : Hid (∀ V, Nw w V → Calls Try.prog 95 #[.slice (some ⟨g, o, none⟩) b.length c, .int .i64 ((i : Int) + 1)] V fun e w' => e = .returned (.tuple #[.int .i64 n, .int .i64 (i + 1 + k : Nat), .bool true]) ∧ w' = V) := fun V hV => by
          refine (HR.out V hV).mono ?_
          rw [hn]
          rintro e w' ⟨h1, h2⟩
          exact ⟨h2, h1⟩
        have HF : Hid (∀ V, Nw w V → P (.returned (.agg #[.int .i64 i, .int .i64 (i + 1 + k : Nat), .int .i64 ((i + 1 + k : Nat) + (n : Nat)), .bool true])) V) := fun V hV => by
          rw [HP.out]
          refine ⟨?_, hV⟩
          simp only [beg, hdr, hn]
          rw [← Int.natCast_add]
        have hN2 : Hid (∀ o1 o2, Nw w ((w.alloc o1).alloc o2)) := fun o1 o2 => ((Fr.refl _ _).alloc _).alloc _
        clear HR hn HP h hdr
        generalize b[i].toNat = tok at *
        generalize hf : i + 1 + k = f at *
        have hfb : f ≤ b.length := by omega
        have hnb : n ≤ 15 + 255 * b.length := by omega
        clear hf
        go_enter Try.func79, Try.ntmps79
        go_wp2_with (first | (go_at_call 95; with_reducible refine (HR'.out _ (hN2.out _ _)).mono ?_; rintro e w3 ⟨rfl, rfl⟩))
        try go_returns
        exact HF.out _ (((Fr.refl _ _).alloc _).alloc _)
    · have hz : ¬ ((b[i].toNat : Nat) : Int) / 16 = 15 := by omega
      have hn : num (b[i].toNat / 16) (b.drop (i + 1)) = some (b[i].toNat / 16, 0) := by simp [num, h15]
      have HF : Hid (∀ V, Nw w V → P (.returned (.agg #[.int .i64 i, .int .i64 ((i : Int) + 1), .int .i64 ((i : Int) + 1 + ((b[i].toNat : Nat) : Int) / 16), .bool true])) V) := fun V hV => by
        rw [HP.out]
        refine ⟨?_, hV⟩
        simp only [beg, hdr, hn]
        rfl
      clear hn HP h hdr
      generalize b[i].toNat = tok at *
      go_enter Try.func79, Try.ntmps79
      go_wp2_with fail
      try go_returns
      exact HF.out _ (((Fr.refl _ _).alloc _).alloc _)
  · have HF : Hid (∀ V, Nw w V → P (.returned (.agg #[.int .i64 i, .int .i64 0, .int .i64 0, .bool false])) V) := fun V hV => by
      rw [HP.out]
      refine ⟨?_, hV⟩
      have hd : b.drop i = [] := by simp; omega
      simp only [beg, hd]
      rfl
    clear HP h
    go_enter Try.func79, Try.ntmps79
    go_wp2_with fail
    try go_returns
    exact HF.out _ (((Fr.refl _ _).alloc _).alloc _)
end Go.Proofs.Ytdeefemeiggolaa

namespace Go.Proofs.Ytdeefemeiggolaa
open Go.RowKit
set_option linter.unusedVariables false
/-- A match, as the document's match tells it: back, length, where it ends, why not. -/
def mtc (b : List By) (lo i : Nat) : Nat × Nat × Nat × Nat :=
  match b.drop i with
  | x :: y :: r => if x.toNat + 256 * y.toNat = 0 then (0, 0, i, 30) else match num lo r with
    | none => (0, 0, b.length, 4)
    | some (n, k) => (x.toNat + 256 * y.toNat, n + 4, i + 2 + k, 0)
  | _ => (0, 0, b.length, 4)
def Mtcd (r : Nat × Nat × Nat × Nat) (w : World) (e : Ending) (w' : World) : Prop :=
  e = .returned (.tuple #[.int .i64 r.1, .int .i64 r.2.1, .int .i64 r.2.2.1, .int .i64 r.2.2.2]) ∧ Nw w w'
set_option maxHeartbeats 8000000 in
set_option maxRecDepth 100000 in
theorem rmatch_any (a : Option Addr) (c : Nat) (b : List By) (w : World) (h : In a c b w) (t i : Nat) (ht : t < b.length) (hi : i ≤ b.length) :
    Calls Try.prog 80 #[.slice a b.length c, .int .i64 t, .int .i64 i] w (Mtcd (mtc b (b[t].toNat % 16) i) w) := by
  obtain ⟨P, hP⟩ : ∃ P, P = Mtcd (mtc b (b[t].toNat % 16) i) w := ⟨_, rfl⟩
  rw [← hP]
  have HP : Hid (P = Mtcd (mtc b (b[t].toNat % 16) i) w) := hP
  clear hP
  have hb1 := h.1
  have hb2 := h.2.1
  have hb3 := h.2.2.1
  by_cases h2 : b.length < i + 2
  · have HF : Hid (∀ V, Nw w V → P (.returned (.tuple #[.int .i64 0, .int .i64 0, .int .i64 b.length, .int .i64 4])) V) := fun V hV => by
      rw [HP.out]
      refine ⟨?_, hV⟩
      have hl2 : (b.drop i).length < 2 := by simp; omega
      unfold mtc
      match hm : b.drop i, hl2 with
      | [], _ => rfl
      | [x], _ => rfl
      | x :: y :: r, h => simp at h; omega
    clear HP h
    go_enter Try.func80, Try.ntmps80
    go_wp2_with fail
    try go_returns
    exact HF.out _ (Fr.refl _ _)
  · have hx : i < b.length := by omega
    have hy : i + 1 < b.length := by omega
    obtain ⟨g, o, rfl, hrd⟩ := h.2.2.2 (by intro e; rw [e] at hx; simp at hx)
    have c0 : w.cell? ⟨g, o + i, none⟩ = some (.int .u8 b[i].toNat) := hrd i hx
    have c1 : w.cell? ⟨g, o + (i + 1), none⟩ = some (.int .u8 b[i + 1].toNat) := hrd (i + 1) hy
    have c2 : w.cell? ⟨g, o + t, none⟩ = some (.int .u8 b[t].toNat) := hrd t ht
    have hdr : b.drop i = b[i] :: b[i + 1] :: b.drop (i + 2) := by rw [List.drop_eq_getElem_cons hx, List.drop_eq_getElem_cons hy]
    have hxl := b[i].isLt
    have hyl := b[i + 1].isLt
    have htl := b[t].isLt
    have hM : mtc b (b[t].toNat % 16) i = if b[i].toNat + 256 * b[i + 1].toNat = 0 then (0, 0, i, 30) else match num (b[t].toNat % 16) (b.drop (i + 2)) with
      | none => (0, 0, b.length, 4)
      | some (n, k) => (b[i].toNat + 256 * b[i + 1].toNat, n + 4, i + 2 + k, 0) := by
      unfold mtc
      rw [hdr]
    have hlen : (b.drop (i + 2)).length = b.length - (i + 2) := by simp
    have HR : Hid (∀ V, Nw w V → Calls Try.prog 95 #[.slice (some ⟨g, o, none⟩) b.length c, .int .i64 ((i : Int) + 2)] V (Readd b (i + 2) (num 15 (b.drop (i + 2))) V)) := fun V hV => by
      exact rread_any (some ⟨g, o, none⟩) c b V (h.nw hV) (i + 2) (by omega)
    by_cases h0 : b[i].toNat + 256 * b[i + 1].toNat = 0
    · have HF : Hid (∀ V, Nw w V → P (.returned (.tuple #[.int .i64 0, .int .i64 0, .int .i64 i, .int .i64 30])) V) := fun V hV => by
        rw [HP.out, hM, if_pos h0]
        exact ⟨rfl, hV⟩
      obtain ⟨e1, e2⟩ : b[i].toNat = 0 ∧ b[i + 1].toNat = 0 := by omega
      rw [e1] at c0
      rw [e2] at c1
      clear HP h hrd hM hdr HR e1 e2 h0
      go_enter Try.func80, Try.ntmps80
      go_wp2_with fail
      go_quiet (fail)
      go_wp2_with fail
      try go_returns
      exact HF.out _ ((Fr.refl _ _).drewN _)
    · rw [if_neg h0] at hM
      have h0' : ¬ ((b[i].toNat : Nat) : Int) + 256 * ((b[i + 1].toNat : Nat) : Int) = 0 := by omega
      by_cases h15 : b[t].toNat % 16 = 15
      · have hz : ((b[t].toNat : Nat) : Int) % 16 = 15 := by omega
        cases hn : num (b[t].toNat % 16) (b.drop (i + 2)) with
        | none =>
          simp only [hn] at hM
          rw [h15] at hn
          have HR' : Hid (∀ V, Nw w V → Calls Try.prog 95 #[.slice (some ⟨g, o, none⟩) b.length c, .int .i64 ((i : Int) + 2)] V fun e w' => e = .returned (.tuple #[.int .i64 0, .int .i64 b.length, .bool false]) ∧ w' = V) := fun V hV => by
            refine (HR.out V hV).mono ?_
            rw [hn]
            rintro e w' ⟨h1, h2⟩
            exact ⟨h2, h1⟩
          have HF : Hid (∀ V, Nw w V → P (.returned (.tuple #[.int .i64 0, .int .i64 0, .int .i64 b.length, .int .i64 4])) V) := fun V hV => by
            rw [HP.out, hM]
            exact ⟨rfl, hV⟩
          clear HP h hrd hM hdr HR h0 hn h15
          generalize b[i].toNat = X at *
          generalize b[i + 1].toNat = Y at *
          generalize b[t].toNat = Z at *
          go_enter Try.func80, Try.ntmps80
          go_wp2_with fail
          go_quiet (fail)
          go_wp2_with (first | (go_at_call 95; with_reducible refine (HR'.out _ ((Fr.refl _ _).drewN _)).mono ?_; rintro e w3 ⟨rfl, rfl⟩))
          try go_returns
          exact HF.out _ ((Fr.refl _ _).drewN _)
        | some p =>
          obtain ⟨n, k⟩ := p
          have hnk := num_le hn (by omega)
          rw [hlen] at hnk
          simp only [hn] at hM
          rw [h15] at hn
          have HR' : Hid (∀ V, Nw w V → Calls Try.prog 95 #[.slice (some ⟨g, o, none⟩) b.length c, .int .i64 ((i : Int) + 2)] V fun e w' => e = .returned (.tuple #[.int .i64 n, .int .i64 (i + 2 + k : Nat), .bool true]) ∧ w' = V) := fun V hV => by
            refine (HR.out V hV).mono ?_
            rw [hn]
            rintro e w' ⟨h1, h2⟩
            exact ⟨h2, h1⟩
          have HF : Hid (∀ V, Nw w V → P (.returned (.tuple #[.int .i64 (((b[i].toNat : Nat) : Int) + 256 * ((b[i + 1].toNat : Nat) : Int)), .int .i64 ((n : Int) + 4), .int .i64 (i + 2 + k : Nat), .int .i64 0])) V) := fun V hV => by
            rw [HP.out, hM]
            exact ⟨rfl, hV⟩
          clear HP h hrd hM hdr HR h0 hn h15
          generalize b[i].toNat = X at *
          generalize b[i + 1].toNat = Y at *
          generalize b[t].toNat = Z at *
          generalize hf : i + 2 + k = f at *
          have hnb : n ≤ 15 + 255 * b.length := by omega
          clear hf hnk
          go_enter Try.func80, Try.ntmps80
          go_wp2_with fail
          go_quiet (fail)
          go_wp2_with (first | (go_at_call 95; with_reducible refine (HR'.out _ ((Fr.refl _ _).drewN _)).mono ?_; rintro e w3 ⟨rfl, rfl⟩))
          try go_returns
          exact HF.out _ ((Fr.refl _ _).drewN _)
      · have hz : ¬ ((b[t].toNat : Nat) : Int) % 16 = 15 := by omega
        have hn : num (b[t].toNat % 16) (b.drop (i + 2)) = some (b[t].toNat % 16, 0) := by simp [num, h15]
        simp only [hn] at hM
        have HF : Hid (∀ V, Nw w V → P (.returned (.tuple #[.int .i64 (((b[i].toNat : Nat) : Int) + 256 * ((b[i + 1].toNat : Nat) : Int)), .int .i64 (((b[t].toNat : Nat) : Int) % 16 + 4), .int .i64 ((i : Int) + 2), .int .i64 0])) V) := fun V hV => by
          rw [HP.out, hM]
          exact ⟨rfl, hV⟩
        clear HP h hrd hM hdr HR h0 hn h15
        generalize b[i].toNat = X at *
        generalize b[i + 1].toNat = Y at *
        generalize b[t].toNat = Z at *
        go_enter Try.func80, Try.ntmps80
        go_wp2_with fail
        go_quiet (fail)
        go_wp2_with fail
        try go_returns
        exact HF.out _ ((Fr.refl _ _).drewN _)
end Go.Proofs.Ytdeefemeiggolaa

namespace Go.Proofs.Ytdeefemeiggolaa
open Go.RowKit
set_option linter.unusedVariables false
theorem one_byte (w : World) (x : By) : Sl (fun _ => False) (.slice (some ⟨w.heap.size, 0, none⟩) 1 1) [x] (w.alloc (.cells #[.int .u8 x.toNat] 5)) := by
  refine .inr ⟨w.heap.size, fun h => h, 0, 1, rfl, by simp, by decide, ?_⟩
  intro j hj
  obtain rfl : j = 0 := by simp at hj; exact hj
  exact new_cell _ _ _ _ _ rfl
/-- One byte more. -/
theorem copied_step (K : Nat → Prop) (l : List By) (back : Nat) (hb : 1 ≤ back) (hbl : back ≤ l.length) (wr : World) (hK : ∀ k, K k → k < wr.heap.size) (v : Value) (h : Mine K v l wr) (hs : l.length ≤ 1000000000) :
    ∃ g c v' W, v = .slice (some ⟨g, 0, none⟩) l.length c ∧ l.length ≤ c ∧ c < 9223372036854775808 ∧ wr.cell? ⟨g, l.length - back, none⟩ = some (.int .u8 (l.getD (l.length - back) 0).toNat) ∧ g < wr.heap.size ∧
      Hid (∀ ty, (Builtin.append_ #[22, 22] ty #[.slice (some ⟨g, 0, none⟩) l.length c, .slice (some ⟨wr.heap.size, 0, none⟩) 1 1]).run Try.prog (wr.alloc (.cells #[.int .u8 (l.getD (l.length - back) 0).toNat] 5)) = .ok v' W) ∧
      Hid (Mine K v' (l ++ [l.getD (l.length - back) 0]) W ∧ Fr (fun k => ¬ K k) wr W) := by
  have h0 := h
  rcases h with ⟨_, rfl⟩ | ⟨g, hg, hO⟩
  · simp at hbl; omega
  have hO' := hO
  obtain ⟨xs, rfl, x2, x3, x4, x5⟩ := hO'
  have hN : Nw wr (wr.alloc (.cells #[.int .u8 (l.getD (l.length - back) 0).toNat] 5)) := (Fr.refl _ _).alloc _
  have hsz : (wr.alloc (.cells #[.int .u8 (l.getD (l.length - back) 0).toNat] 5)).heap.size = wr.heap.size + 1 := by simp
  obtain ⟨v', W, hap, hM, hF⟩ := mine_app K _ (fun k hk => by rw [hsz]; have := hK k hk; omega) _ l (h0.nw hN) _ _ (one_byte wr (l.getD (l.length - back) 0)) (by simp; omega)
  refine ⟨g, xs.length, v', W, rfl, x3, x4, ?_, hO.lt, hap, hM, hN.any.trans hF⟩
  have := hO.at (l.length - back) (by omega)
  rw [this.1, List.getD_eq_getElem?_getD, List.getElem?_eq_getElem (by omega)]
  rfl
set_option maxHeartbeats 8000000 in
set_option maxRecDepth 100000 in
theorem rcopied_any (K : Nat → Prop) (l : List By) (back n : Nat) (hb : 1 ≤ back) (hbl : back ≤ l.length) (w : World) (hK : ∀ k, K k → k < w.heap.size) (v : Value) (h : Mine K v l w) (hs : l.length + n ≤ 1000000000) :
    Calls Try.prog 81 #[v, .int .i64 back, .int .i64 n] w fun e w' => ∃ v', e = .returned v' ∧ Mine K v' (cop l back n) w' ∧ Fr (fun k => ¬ K k) w w' := by
  obtain ⟨P, hP⟩ : ∃ P : Ending → World → Prop, P = fun e w' => ∃ v', e = .returned v' ∧ Mine K v' (cop l back n) w' ∧ Fr (fun k => ¬ K k) w w' := ⟨_, rfl⟩
  rw [← hP]
  have HP : Hid (P = fun e w' => ∃ v', e = .returned v' ∧ Mine K v' (cop l back n) w' ∧ Fr (fun k => ¬ K k) w w') := hP
  have HI0 : Hid (Mine K v (cop l back 0) w ∧ Fr (fun k => ¬ K k) w w) := ⟨h, Fr.refl _ _⟩
  have HK : Hid (∀ k, K k → k < w.heap.size) := hK
  have HS : Hid (∀ i wr v, i ≤ n → Mine K v (cop l back i) wr → Fr (fun k => ¬ K k) w wr → _) := fun i wr v hi hm hf => copied_step K (cop l back i) back hb (by rw [cop_length]; omega) wr (fun k hk => Nat.lt_of_lt_of_le (HK.out k hk) hf.size) v hm (by rw [cop_length]; omega)
  clear hP h hK
  go_enter Try.func81, Try.ntmps81
  go_wp2
  go_loopg [0, 7] n (fun kx x i wr => ∃ (I : Nat), I ≤ n ∧ n - I ≤ kx ∧ i = .int .i64 I ∧ Hid (Mine K x (cop l back I) wr ∧ Fr (fun k => ¬ K k) w wr))
  case atStart => exact ⟨0, by omega, by omega, rfl, HI0⟩
  case round =>
    obtain ⟨I, hI, hkx, rfl, HI⟩ := hrel
    clear HI0
    obtain ⟨hM, hF⟩ := HI.out
    by_cases hlt : I < n
    · obtain ⟨g, c, v', W, rfl, hc, hc2, hcell, hgl, HAP, HN⟩ := HS.out I wr u0 hI hM hF
      have HN' : Hid (Mine K v' (cop l back (I + 1)) W ∧ Fr (fun k => ¬ K k) w W) := ⟨HN.out.1, hF.trans HN.out.2⟩
      have hcl := cop_length l back I
      generalize (cop l back I).getD ((cop l back I).length - back) 0 = x at *
      clear HS HI hM hF HN HP HK
      generalize (cop l back I).length = ln at *
      have hxl := x.isLt
      have hz1 : (ln : Int) - (back : Int) = ((ln - back : Nat) : Int) := by omega
      have hz2 : ((ln - back : Nat) : Int) < (ln : Int) := by omega
      have hz3 : (I : Int) < (n : Int) := by omega
      have hne : ¬ g = wr.heap.size := by omega
      generalize hk : ln - back = kk at *
      clear hk hcl
      go_wp2_with (first
        | (at_builtin; refine Lib.wpList_append_run _ rfl _ _ 22 22 rfl (.slice (some ⟨g, 0, none⟩) ln c) (.slice (some ⟨wr.heap.size, 0, none⟩) 1 1) (by simp [Act.eval]) (by simp [Act.eval]) _ _ (HAP.out _) ?_))
      go_roundg (n - (I + 1))
      case measure => omega
      case rel => exact ⟨I + 1, by omega, by omega, by first | rfl | (congr 1), HN'⟩
    · obtain rfl : I = n := by omega
      have HF : Hid (P (.returned u0) wr) := by
        show P _ _
        rw [HP.out]
        exact ⟨_, rfl, hM, hF⟩
      clear HS HI hM hF HP HK
      go_wp2_with fail
      exact HF.out
/-- The end of the bytes ahead that counts. -/
def win (ahead : List By) : List By := ahead.drop (ahead.length - 65535)
theorem win_length (ahead : List By) : (win ahead).length = min ahead.length 65535 := by simp [win]; omega
set_option maxHeartbeats 8000000 in
set_option maxRecDepth 100000 in
theorem rwindow_any (w : World) (va : Value) (ahead : List By) (ha : Old w va ahead) (hal : ahead.length ≤ 140737488351232) :
    Calls Try.prog 78 #[va] w fun e w' => ∃ g c, e = .returned (.slice (some ⟨g, 0, none⟩) (win ahead).length c) ∧ w.heap.size ≤ g ∧ Ow g (.slice (some ⟨g, 0, none⟩) (win ahead).length c) (win ahead) w' ∧ Nw w w' := by
  obtain ⟨P, hP⟩ : ∃ P : Ending → World → Prop, P = fun e w' => ∃ g c, e = .returned (.slice (some ⟨g, 0, none⟩) (win ahead).length c) ∧ w.heap.size ≤ g ∧ Ow g (.slice (some ⟨g, 0, none⟩) (win ahead).length c) (win ahead) w' ∧ Nw w w' := ⟨_, rfl⟩
  rw [← hP]
  have HP : Hid (P = fun e w' => ∃ g c, e = .returned (.slice (some ⟨g, 0, none⟩) (win ahead).length c) ∧ w.heap.size ≤ g ∧ Ow g (.slice (some ⟨g, 0, none⟩) (win ahead).length c) (win ahead) w' ∧ Nw w w') := hP
  clear hP
  have key : ∀ x, Sl (fun k => w.heap.size ≤ k) x (win ahead) w → ∃ v' W, Hid (∀ ty, (Builtin.append_ #[22, 22] ty #[.slice (some ⟨w.heap.size, 0, none⟩) 0 0, x]).run Try.prog (w.alloc (.cells #[] 5)) = .ok v' W) ∧ Hid (P (.returned v') W) := by
    intro x hx
    obtain ⟨v', g', W, k1, k2, k3, k4⟩ := app_any (w.alloc (.cells #[] 5)) w.heap.size _ [] (Ow.empty w) x (win ahead) ((hx.nw ((Fr.refl _ _).alloc _)).mono (fun _ h => h.elim)) (by have := win_length ahead; simp; omega)
    rw [List.nil_append] at k2
    refine ⟨v', W, k1, ?_⟩
    show P _ _
    rw [HP.out]
    have k2' := k2
    obtain ⟨xs, e, _⟩ := k2'
    refine ⟨g', xs.length, by rw [e], ?_, by rw [← e]; exact k2, Fr.then ((Fr.refl _ _).alloc _) k3 (fun i hi => .inr (by omega))⟩
    rcases k4 with h | h
    · omega
    · simp at h; omega
  by_cases hbig : 65535 < ahead.length
  · obtain ⟨a, c, rfl, hc, hc2, hao⟩ : ∃ a c, va = .slice a ahead.length c ∧ ahead.length ≤ c ∧ c < 9223372036854775808 ∧ (ahead ≠ [] → ∃ g o, a = some ⟨g, o, none⟩ ∧ g < w.heap.size ∧ Rd g o ahead w) := by
      rcases ha with ⟨a, rfl, rfl⟩ | ⟨g, hg, o, c, rfl, h1, h2, h3⟩
      · simp at hbig
      · exact ⟨_, c, rfl, h1, h2, fun _ => ⟨g, o, rfl, by omega, h3⟩⟩
    obtain ⟨g, o, rfl, hg, hrd⟩ := hao (by intro e; rw [e] at hbig; simp at hbig)
    have hwl := win_length ahead
    obtain ⟨v', W, HAP, HF⟩ := key (.slice (some ⟨g, o + (ahead.length - 65535), none⟩) 65535 (c - (ahead.length - 65535))) (.inr ⟨g, by omega, _, _, by rw [hwl, Nat.min_eq_right (by omega)], by omega, by omega, hrd.drop _⟩)
    clear key HP ha hao hrd hwl
    generalize ahead.length = al at *
    have hz1 : (al : Int) - 65535 = ((al - 65535 : Nat) : Int) := by omega
    have hz2 : ((al - 65535 : Nat) : Int) ≤ (al : Int) := by omega
    have hz3 : ¬ c = al - 65535 := by omega
    have hz4 : al - (al - 65535) = 65535 := by omega
    generalize al - 65535 = kk at *
    have hz5 : (65535 : Int) < (al : Int) := by omega
    go_enter Try.func78, Try.ntmps78
    go_wp2_with (first
      | (at_builtin; refine Lib.wpList_append_run _ rfl _ _ 22 22 rfl (.slice (some ⟨w.heap.size, 0, none⟩) 0 0) (.slice (some ⟨g, o + kk, none⟩) 65535 (c - kk)) (by simp [Act.eval]) (by simp [Act.eval]) _ _ (HAP.out _) ?_))
    exact HF.out
  · have hwe : win ahead = ahead := by unfold win; rw [show ahead.length - 65535 = 0 by omega]; rfl
    obtain ⟨v', W, HAP, HF⟩ := key va (by rw [hwe]; exact ha)
    obtain ⟨a, c, rfl, hc, hc2⟩ := ha.form
    clear key HP ha hwe
    generalize ahead.length = al at *
    have hz5 : ¬ (65535 : Int) < (al : Int) := by omega
    go_enter Try.func78, Try.ntmps78
    go_wp2_with (first
      | (at_builtin; refine Lib.wpList_append_run _ rfl _ _ 22 22 rfl (.slice (some ⟨w.heap.size, 0, none⟩) 0 0) (.slice a al c) (by simp [Act.eval]) (by simp [Act.eval]) _ _ (HAP.out _) ?_))
    exact HF.out
end Go.Proofs.Ytdeefemeiggolaa

namespace Go.Proofs.Ytdeefemeiggolaa
open Go.RowKit
set_option linter.unusedVariables false
/-- Two lists of bytes, byte by byte. -/
theorem eq_upto (l m : List By) (k : Nat) (h : l.length = m.length) (hk : k ≤ l.length) (he : ∀ j, j < k → l[j]? = m[j]?) (hd : k = l.length) : l = m := by
  apply List.ext_getElem?
  intro i
  by_cases hi : i < k
  · exact he i hi
  · rw [List.getElem?_eq_none (by omega), List.getElem?_eq_none (by omega)]
theorem Sl.in' {X : Nat → Prop} {v : Value} {b : List By} {w : World} (h : Sl X v b w) (hs : b.length ≤ 140737488351232) : ∃ a c, v = .slice a b.length c ∧ In a c b w := by
  rcases h with ⟨a, rfl, rfl⟩ | ⟨g, _, o, c, rfl, h1, h2, h3⟩
  · exact ⟨a, 0, rfl, by simp, by simp, by simp, fun h => absurd rfl h⟩
  · exact ⟨_, c, rfl, h1, h2, hs, fun _ => ⟨g, o, rfl, h3⟩⟩
end Go.Proofs.Ytdeefemeiggolaa

namespace Go.Proofs.Ytdeefemeiggolaa
open Go.RowKit
set_option linter.unusedVariables false
theorem madeB (n : Nat) : (madeCells (Value.int .u8 0).cells n) = ((List.replicate n 0#8).map bv).toArray := by
  apply Array.ext'
  apply List.ext_getElem?
  intro k
  by_cases hk : k < n
  · simp [madeCells, Value.cells, hk, Nat.mod_one]
  · rw [List.getElem?_eq_none (by simp [madeCells, Value.cells]; omega), List.getElem?_eq_none (by simp; omega)]
/-- Room for bytes. -/
theorem make_any (w : World) (n : Nat) (hn : n ≤ 200000000000000) : ∃ W, (Instr.makeSlice 22 (.int .i64 0) (.int .i64 n)).run Try.prog w = .ok (.slice (some ⟨w.heap.size, 0, none⟩) 0 n) W ∧ Ow w.heap.size (.slice (some ⟨w.heap.size, 0, none⟩) 0 n) [] W ∧ Nw w W ∧ W.heap.size = w.heap.size + 1 := by
  obtain ⟨i, hi, hz, hs, hby⟩ := infoB
  have h := run_make (P := Try.prog) w 22 5 i _ Try.underlying22 hi hz .i64 .i64 0 n (Int.le_refl _) (by omega) (by rw [hby]; omega) (by omega)
  simp only [Int.toNat_zero, Int.toNat_natCast, hs, Nat.mul_one, madeB] at h
  refine ⟨_, h, ⟨List.replicate n 0#8, by simp, by simp, by simp, by simp; omega, ?_⟩, (Fr.refl _ _).alloc _, by simp⟩
  exact new_heap _ _
def marks : Nat → List By
  | 0 => []
  | k + 1 => marks k ++ [BitVec.ofNat 8 (171 + k)]
theorem marks_length (k : Nat) : (marks k).length = k := by
  induction k with
  | zero => rfl
  | succ k ih => simp [marks, ih]
theorem marks_at (k j : Nat) (h : j < k) : (marks k)[j]? = some (BitVec.ofNat 8 (171 + j)) := by
  induction k with
  | zero => omega
  | succ k ih =>
    have := marks_length k
    by_cases hj : j < k
    · simp only [marks]
      rw [List.getElem?_append_left (by omega)]; exact ih hj
    · obtain rfl : j = k := by omega
      simp only [marks]
      rw [List.getElem?_append_right (by omega), this]; simp
theorem one_byte' (w : World) (x : By) (z : Int) (hz : z = x.toNat) : Sl (fun _ => False) (.slice (some ⟨w.heap.size, 0, none⟩) 1 1) [x] (w.alloc (.cells #[.int .u8 z] 5)) := by
  subst hz; exact one_byte w x
/-- One byte more, in a block of one's own. -/
theorem own_step (g : Nat) (l : List By) (wr : World) (c : Nat) (h : Ow g (.slice (some ⟨g, 0, none⟩) l.length c) l wr) (hs : l.length ≤ 150000000000000) (x : By) (z : Int) (hz : z = x.toNat) :
    ∃ g' c' W, Hid (∀ ty, (Builtin.append_ #[22, 22] ty #[.slice (some ⟨g, 0, none⟩) l.length c, .slice (some ⟨wr.heap.size, 0, none⟩) 1 1]).run Try.prog (wr.alloc (.cells #[.int .u8 z] 5)) = .ok (.slice (some ⟨g', 0, none⟩) (l.length + 1) c') W) ∧ Hid (Ow g' (.slice (some ⟨g', 0, none⟩) (l.length + 1) c') (l ++ [x]) W ∧ Fr (fun k => k = g) wr W ∧ (g' = g ∨ wr.heap.size ≤ g')) := by
  have hN : Nw wr (wr.alloc (.cells #[.int .u8 z] 5)) := (Fr.refl _ _).alloc _
  obtain ⟨v', g', W, hap, hO, hF, hg⟩ := app_any _ g _ l (h.nw hN) _ _ (one_byte' wr x z hz) (by simp; omega)
  have hO' := hO
  obtain ⟨xs, rfl, _⟩ := hO'
  rw [List.length_append] at hO hap
  refine ⟨g', xs.length, W, hap, hO, hN.any.trans hF, ?_⟩
  rcases hg with h | h
  · exact .inl h
  · exact .inr (by simp at h; omega)
/-- What lent answers. -/
def Lentd (b : List By) (w : World) (e : Ending) (w' : World) : Prop :=
  ∃ g c, e = .returned (.tuple #[.slice (some ⟨g, 0, none⟩) b.length c, .slice (some ⟨g, 0, none⟩) (b.length + 32) c]) ∧ w.heap.size ≤ g ∧ Ow g (.slice (some ⟨g, 0, none⟩) (b.length + 32) c) (b ++ marks 32) w' ∧ Nw w w'
end Go.Proofs.Ytdeefemeiggolaa

namespace Go.Proofs.Ytdeefemeiggolaa
open Go.RowKit
set_option linter.unusedVariables false
/-- One byte more, nil or own. -/
theorem mine_step (K : Nat → Prop) (l : List By) (wr : World) (hK : ∀ k, K k → k < wr.heap.size) (v : Value) (h : Mine K v l wr) (hs : l.length ≤ 150000000000000) (x : By) (z : Int) (hz : z = x.toNat) :
    ∃ a c v' W, v = .slice a l.length c ∧ Hid (∀ ty, (Builtin.append_ #[22, 22] ty #[.slice a l.length c, .slice (some ⟨wr.heap.size, 0, none⟩) 1 1]).run Try.prog (wr.alloc (.cells #[.int .u8 z] 5)) = .ok v' W) ∧ Hid (Mine K v' (l ++ [x]) W ∧ Fr (fun k => ¬ K k) wr W) := by
  have hN : Nw wr (wr.alloc (.cells #[.int .u8 z] 5)) := (Fr.refl _ _).alloc _
  have hsz : (wr.alloc (.cells #[.int .u8 z] 5)).heap.size = wr.heap.size + 1 := by simp
  obtain ⟨v', W, hap, hM, hF⟩ := mine_app K _ (fun k hk => by rw [hsz]; have := hK k hk; omega) v l (h.nw hN) _ _ (one_byte' wr x z hz) (by simp; omega)
  obtain ⟨a, c, rfl, _, _⟩ := h.sl.form
  exact ⟨a, c, v', W, rfl, hap, hM, hN.any.trans hF⟩
end Go.Proofs.Ytdeefemeiggolaa
