import Derived.Test.YtpjnbhflnbhnoaaGreatDoorWbl
import Derived.Test.YtpjnbhflnbhnoaaGreatDoorWaq
namespace Go.Proofs.YtpjnbhflnbhnoaaGreatDoor
open Go.RowKit
set_option linter.unusedVariables false
/-- How many of the first n bytes there are ahead of the zeros at their end. -/
def zlen (b : List By) : Nat → Nat
  | 0 => 0
  | n + 1 => if b.getD n 0#8 = 0#8 then zlen b n else n + 1
theorem zlen_le (b : List By) : ∀ n, zlen b n ≤ n
  | 0 => Nat.le_refl _
  | n + 1 => by
    unfold zlen
    split
    · have := zlen_le b n; omega
    · exact Nat.le_refl _
set_option maxHeartbeats 4000000 in
set_option maxRecDepth 100000 in
theorem trimrb_any {X : Nat → Prop} (w : World) (a : Option Addr) (c : Nat) (b : List By) (hb : Sl X (.slice a b.length c) b w) (hbl : b.length ≤ 140737488351232) :
    Calls Tryz.prog 58 #[.slice a b.length c, .int .u8 0] w fun e w' => e = .returned (.slice a (zlen b b.length) c) ∧ w = w' := by
  obtain ⟨P, hP⟩ : ∃ P : Ending → World → Prop, P = fun e w' => e = .returned (.slice a (zlen b b.length) c) ∧ w = w' := ⟨_, rfl⟩
  rw [← hP]
  have HF : Hid (∀ M, M = zlen b b.length → P (.returned (.slice a M c)) w) := fun M hM => by rw [hP, hM]; exact ⟨rfl, rfl⟩
  clear hP
  have HR : Hid (∀ I, I < b.length → ∃ g o, a = some ⟨g, o, none⟩ ∧ b.length ≤ c ∧ c < 9223372036854775808 ∧ w.cell? ⟨g, o + I, none⟩ = some (.int .u8 (b.getD I 0#8).toNat)) := fun I hI => by
    rcases hb with ⟨a', e, e2⟩ | ⟨g, _, o, c', e, e1, e2, hr⟩
    · rw [e2] at hI; simp at hI
    · injection e with e _ ec
      subst ec
      refine ⟨g, o, e, e1, e2, ?_⟩
      have := hr I hI
      rw [List.getD_eq_getElem?_getD, List.getElem?_eq_getElem hI]
      exact this
  clear hb
  obtain ⟨L, hL⟩ : ∃ L, b.length = L := ⟨_, rfl⟩
  rw [hL] at HF HR hbl ⊢
  clear hL
  go_enter Tryz.func58, Tryz.ntmps58
  go_wp2_with fail
  go_loopg [0] L (fun kx v wr => ∃ M : Nat, M ≤ L ∧ M ≤ kx ∧ v = .slice a M c ∧ wr = w ∧ Hid (zlen b M = zlen b L))
  case atStart => exact ⟨L, by omega, by omega, rfl, rfl, rfl⟩
  case round =>
    obtain ⟨M, hM, hkx, rfl, rfl, HZ⟩ := hrel
    by_cases h0 : M = 0
    · subst h0
      have HF2 := toHid2 (HF.out 0 HZ.out)
      clear HF HR HZ
      go_wp2_with fail
      exact HF2.out
    · obtain ⟨M1, hM1⟩ : ∃ M1, M = M1 + 1 := ⟨M - 1, by omega⟩
      obtain ⟨g, o, rfl, hc1, hc2, x0⟩ := HR.out M1 (by omega)
      have z1 : (0 : Int) < (M : Int) := by omega
      have z2 : (M : Int) - 1 = (M1 : Int) := by omega
      have z3 : (M1 : Int) < (M : Int) := by omega
      have z4 : (M1 : Int) ≤ (M : Int) := by omega
      have z5 : (M1 : Int) ≤ (c : Int) := by omega
      have z6 : (0 : Int) ≤ (M1 : Int) := by omega
      have z7 : M1 < M := by omega
      have z8 : 0 < M := by omega
      have HS : Hid (zlen b M = if b.getD M1 0#8 = 0#8 then zlen b M1 else M) := by show _ = _; rw [hM1, zlen]
      generalize b.getD M1 0#8 = x at *
      by_cases hx : x = 0#8
      · have HN : Hid (zlen b M1 = zlen b L) := by show _ = _; rw [← HZ.out, HS.out, if_pos hx]
        subst hx
        have x1 : wr.cell? ⟨g, o + M1, none⟩ = some (.int .u8 0) := x0
        clear HF HR HZ HS x0 hM1 h0
        go_wp2_with fail
        go_roundg M1
        all_goals (first | omega | exact ⟨M1, by omega, by omega, rfl, rfl, HN⟩)
      · have HF2 := toHid2 (HF.out M (by rw [← HZ.out, HS.out, if_neg hx]))
        have hne : x.toNat ≠ 0 := fun e => hx (BitVec.eq_of_toNat_eq e)
        have hz : ((x.toNat : Int) == 0) = false := by rw [beq_eq_false_iff_ne]; omega
        have hz2 : ¬ x.toNat = 0 := hne
        clear HF HR HZ HS hM1 h0 hx hne
        generalize x.toNat = xx at *
        go_wp2_with fail
        exact HF2.out
end Go.Proofs.YtpjnbhflnbhnoaaGreatDoor

namespace Go.Proofs.YtpjnbhflnbhnoaaGreatDoor
open Go.RowKit
set_option linter.unusedVariables false
set_option maxHeartbeats 4000000 in
set_option maxRecDepth 100000 in
/-- bytes.TrimRight of zeros: the bytes ahead of the zeros at the end. -/
theorem trimr_any {X : Nat → Prop} (w : World) (a : Option Addr) (c : Nat) (b : List By) (hb : Sl X (.slice a b.length c) b w) (hbl : b.length ≤ 140737488351232) :
    Calls Tryz.prog 42 #[.slice a b.length c, .string ⟨#[0]⟩] w fun e w' => e = .returned (.slice a (zlen b b.length) c) ∧ w = w' := by
  obtain ⟨P, hP⟩ : ∃ P : Ending → World → Prop, P = fun e w' => e = .returned (.slice a (zlen b b.length) c) ∧ w = w' := ⟨_, rfl⟩
  rw [← hP]
  have HF : Hid (P (.returned (.slice a (zlen b b.length) c)) w) := by rw [hP]; exact ⟨rfl, rfl⟩
  have HI : Hid (Calls Tryz.prog 58 #[.slice a b.length c, .int .u8 0] w fun e w' => e = .returned (.slice a (zlen b b.length) c) ∧ w = w') := trimrb_any w a c b hb hbl
  clear hP hb
  obtain ⟨L, hL⟩ : ∃ L, b.length = L := ⟨_, rfl⟩
  rw [hL] at HF HI hbl ⊢
  clear hL
  by_cases h0 : L = 0
  · subst h0
    have e : zlen b 0 = 0 := rfl
    rw [e] at HF
    clear HI
    go_enter Tryz.func42, Tryz.ntmps42
    go_wp2_with fail
    first | exact HF.out | (go_ret; exact HF.out)
  · have z1 : ((L : Int) == 0) = false := by rw [beq_eq_false_iff_ne]; omega
    have z2 : ¬ (L : Int) = 0 := by omega
    generalize zlen b L = M at *
    go_enter Tryz.func42, Tryz.ntmps42
    go_wp2_with (first | (go_at_call 58; refine HI.out.mono ?_; rintro e w1 ⟨rfl, rfl⟩))
    first | exact HF.out | (go_ret; exact HF.out)
end Go.Proofs.YtpjnbhflnbhnoaaGreatDoor

namespace Go.Proofs.YtpjnbhflnbhnoaaGreatDoor
open Go.RowKit
set_option linter.unusedVariables false
/-- What Decode answers. -/
inductive DZ where
  | ok (out : List By) (ms : List Md)
  | bad (y : Nat)
/-- Decode from the place p on, when out and ms were read ahead of it; z bytes lie ahead of the zeros at the end. -/
noncomputable def decL (b : List By) (z : Nat) (most : Int) : Nat → Nat → List By → List Md → DZ
  | 0, _, _, _ => .bad 0
  | k + 1, p, out, ms =>
    if ms.length = 0 ∨ p < z then
      match oneZ (b.drop p) (most - out.length) with
      | .bad y => .bad (if y = 130 ∧ 0 < ms.length then 5 else y)
      | .ok o m n => decL b z most k (p + n) (out ++ o) (ms ++ [m])
    else .ok out ms
/-- Decode. -/
noncomputable def decZ (b : List By) (most : Int) : DZ := decL b (zlen b b.length) most (b.length + 1) 0 [] []
theorem decL_done {b : List By} {z : Nat} {most : Int} {k p : Nat} {out : List By} {ms : List Md} (h : ¬ (ms.length = 0 ∨ p < z)) : decL b z most (k + 1) p out ms = .ok out ms := by
  rw [decL, if_neg h]
theorem decL_bad {b : List By} {z : Nat} {most : Int} {k p : Nat} {out : List By} {ms : List Md} {y : Nat} (h : ms.length = 0 ∨ p < z) (e : oneZ (b.drop p) (most - out.length) = .bad y) : decL b z most (k + 1) p out ms = .bad (if y = 130 ∧ 0 < ms.length then 5 else y) := by
  rw [decL, if_pos h, e]
theorem decL_ok {b : List By} {z : Nat} {most : Int} {k p : Nat} {out : List By} {ms : List Md} {o : List By} {m : Md} {n : Nat} (h : ms.length = 0 ∨ p < z) (e : oneZ (b.drop p) (most - out.length) = .ok o m n) : decL b z most (k + 1) p out ms = decL b z most k (p + n) (out ++ o) (ms ++ [m]) := by
  rw [decL, if_pos h, e]
theorem one_pos {b : List By} {most : Int} {o : List By} {m : Md} {n : Nat} (h : oneZ b most = .ok o m n) : 8 ≤ n ∧ 0 ≤ most ∧ most ≤ 4194304 := by
  unfold oneZ at h
  split at h
  · cases h
  · rename_i hm
    split at h
    · cases h
    · split at h
      · cases h
      · split at h
        · cases h
        · injection h with _ _ h
          omega
end Go.Proofs.YtpjnbhflnbhnoaaGreatDoor

namespace Go.Proofs.YtpjnbhflnbhnoaaGreatDoor
open Go.RowKit
set_option linter.unusedVariables false
/-! ### Members in memory: what is said, and where its extra bytes lie -/
abbrev Mx := Md × Option Addr × Nat
def RM : RT Mx := { enc := fun x => [.string (str x.1.nm), .string (str x.1.cm), .slice x.2.1 x.1.ex.length x.2.2, .int .u32 x.1.tm, .int .u8 x.1.fl.toNat, .int .u8 x.1.sy.toNat, .bool x.1.tx, .bool x.1.sm], k := 8, T := 25, TS := 37, z := (⟨[], [], [], 0, 0#8, 0#8, false, false⟩, none, 0), by_ := 64 }
theorem rmOk : RM.Ok := by
  refine ⟨fun _ => rfl, by decide, fun x v hv => ?_, Tryz.underlying37, ?_⟩
  · simp only [RM, List.mem_cons, List.mem_nil_iff, or_false] at hv
    rcases hv with rfl | rfl | rfl | rfl | rfl | rfl | rfl | rfl <;> rfl
  · have h : (Tryz.prog.info? 25).map (fun i => (i.zero, i.size, i.bytes)) = some (some (.agg #[.string ⟨#[]⟩, .string ⟨#[]⟩, .slice none 0 0, .int .u32 0, .int .u8 0, .int .u8 0, .bool false, .bool false]), 8, 64) := by kernel_rfl
    cases hq : Tryz.prog.info? 25 with
    | none => simp [hq] at h
    | some i => simp [hq] at h; exact ⟨i, _, hq, h.1, h.2.1, h.2.2, rfl⟩
theorem mm_push (wr : World) (og : Option Nat) (v : Value) (l : List Mx) (h : OgR RM og v l wr) (hl : l.length ≤ 3000000000000) (x : Mx) :
    ∃ a' c' W og', Hid (∀ ty, (Builtin.append_ #[37, 37] ty #[v, .slice (some ⟨wr.heap.size, 0, none⟩) 1 1]).run Tryz.prog (wr.alloc (.cells (RM.enc x).toArray 25)) = .ok (.slice a' (l.length + 1) c') W) ∧ OgR RM og' (.slice a' (l.length + 1) c') (l ++ [x]) W ∧ Fr (fun k => og = some k) wr W ∧ (og' = og ∨ ∃ g, og' = some g ∧ wr.heap.size ≤ g) ∧ l.length + 1 ≤ c' ∧ c' < 9223372036854775808 := by
  have hN : Nw wr (wr.alloc (.cells (RM.enc x).toArray 25)) := (Fr.refl _ _).alloc _
  have hb := OwR.built rmOk wr [x] (RM.enc x).toArray (by simp [flatR]) (by simp)
  obtain ⟨v', og', W, k1, k2, k3, k4⟩ := ogR_app rmOk _ og v l (h.nw hN) (.slice (some ⟨wr.heap.size, 0, none⟩) 1 1) [x] ((hb.slr rmOk).mono (fun _ h => h.elim)) (by simp only [RM, List.length_singleton]; omega) (by simp only [List.length_singleton]; omega)
  obtain ⟨a', c', e2, q1, q2⟩ := k2.form
  rw [List.length_append, List.length_singleton] at e2 q1
  subst e2
  refine ⟨a', c', W, og', k1, k2, hN.any.trans k3, ?_, q1, q2⟩
  rcases k4 with rfl | ⟨g, rfl, hg⟩
  · exact .inl rfl
  · refine .inr ⟨g, rfl, ?_⟩
    have : (wr.alloc (.cells (RM.enc x).toArray 25)).heap.size = wr.heap.size + 1 := by simp
    omega
/-- How Decode's members lie there: their list, and each one's extra bytes, all in the blocks B, outside of what was there before. -/
structure MsI (D : Nat) (B : Nat → Prop) (og : Option Nat) (v : Value) (ms : List Md) (xs : List Mx) (w : World) : Prop where
  eq : xs.map (·.1) = ms
  rows : OgR RM og v xs w
  low : ∀ k, B k → D ≤ k ∧ k < w.heap.size
  mem : ∀ g, og = some g → B g
  ext : ∀ x ∈ xs, Mine (fun k => ¬ B k ∨ og = some k) (.slice x.2.1 x.1.ex.length x.2.2) x.1.ex w
theorem MsI.len {D : Nat} {B : Nat → Prop} {og : Option Nat} {v : Value} {ms : List Md} {xs : List Mx} {w : World} (h : MsI D B og v ms xs w) : xs.length = ms.length := by
  rw [← h.eq, List.length_map]
theorem MsI.nil (D : Nat) (w : World) : MsI D (fun _ => False) none (.slice none 0 0) [] [] w :=
  ⟨rfl, ⟨rfl, rfl⟩, fun _ h => h.elim, fun _ h => (by cases h), fun x hx => (by cases hx)⟩
theorem MsI.keep {D : Nat} {B : Nat → Prop} {og : Option Nat} {v : Value} {ms : List Md} {xs : List Mx} {w w' : World} {X : Nat → Prop} (h : MsI D B og v ms xs w) (f : Fr X w w') (hx : ∀ k, X k → ¬ B k) : MsI D B og v ms xs w' :=
  ⟨h.eq, h.rows.kept f (fun g hg hX => hx g hX (h.mem g hg)), fun k hk => ⟨(h.low k hk).1, Nat.lt_of_lt_of_le (h.low k hk).2 f.size⟩, h.mem, fun x hx' => (h.ext x hx').kept f (fun g hg => .inl (.inl (hx g hg)))⟩
theorem MsI.wider {D : Nat} {B : Nat → Prop} {og : Option Nat} {v : Value} {ms : List Md} {xs : List Mx} {w : World} (h : MsI D B og v ms xs w) (X : Nat → Prop) (hX : ∀ k, X k → D ≤ k ∧ k < w.heap.size) : MsI D (fun k => B k ∨ X k) og v ms xs w :=
  ⟨h.eq, h.rows, fun k hk => hk.elim (h.low k) (hX k), fun g hg => .inl (h.mem g hg), fun x hx => (h.ext x hx).more (fun g hg => .inl (hg.elim (fun n => .inl (fun b => n (.inl b))) .inr))⟩
theorem MsI.push {D : Nat} {B : Nat → Prop} {og : Option Nat} {v : Value} {ms : List Md} {xs : List Mx} {w : World} (h : MsI D B og v ms xs w) (hD : D ≤ w.heap.size) (hl : ms.length ≤ 3000000000000) (x : Mx) (hx : Mine (fun k => ¬ B k ∨ og = some k) (.slice x.2.1 x.1.ex.length x.2.2) x.1.ex w) :
    ∃ a' c' W og', Hid (∀ ty, (Builtin.append_ #[37, 37] ty #[v, .slice (some ⟨w.heap.size, 0, none⟩) 1 1]).run Tryz.prog (w.alloc (.cells (RM.enc x).toArray 25)) = .ok (.slice a' (ms.length + 1) c') W) ∧ MsI D (fun k => B k ∨ og' = some k) og' (.slice a' (ms.length + 1) c') (ms ++ [x.1]) (xs ++ [x]) W ∧ Fr (fun k => og = some k) w W ∧ (∀ k, og' = some k → B k ∨ w.heap.size ≤ k) ∧ ms.length + 1 ≤ c' ∧ c' < 9223372036854775808 := by
  obtain ⟨a', c', W, og', k1, k2, k3, k4, k5, k6⟩ := mm_push w og v xs h.rows (by rw [h.len]; exact hl) x
  rw [h.len] at k1 k2 k5
  have ho : ∀ k, og' = some k → og = some k ∨ w.heap.size ≤ k := fun k hk => by
    rcases k4 with e | ⟨g, e, hg⟩
    · exact .inl (e ▸ hk)
    · rw [e] at hk; injection hk with hk; subst hk; exact .inr hg
  have hm : ∀ y ∈ xs ++ [x], Mine (fun k => ¬ B k ∨ og = some k) (.slice y.2.1 y.1.ex.length y.2.2) y.1.ex w := fun y hy => by
    rcases List.mem_append.1 hy with hy | hy
    · exact h.ext y hy
    · rw [List.mem_singleton] at hy; subst hy; exact hx
  refine ⟨a', c', W, og', k1, ⟨by simp [h.eq], k2, fun k hk => ?_, fun g hg => .inr hg, fun y hy => ?_⟩, k3, fun k hk => (ho k hk).imp (h.mem k) id, k5, k6⟩
  · rcases hk with hk | hk
    · exact ⟨(h.low k hk).1, Nat.lt_of_lt_of_le (h.low k hk).2 k3.size⟩
    · refine ⟨?_, k2.lt k hk⟩
      rcases ho k hk with e | e
      · exact (h.low k (h.mem k e)).1
      · omega
  · have m1 : Mine (fun k => ¬ B k ∨ og = some k ∨ og' = some k) (.slice y.2.1 y.1.ex.length y.2.2) y.1.ex w := (hm y hy).more (fun g hg => by
      rcases hg with hg | hg | hg
      · exact .inl (.inl hg)
      · exact .inl (.inr hg)
      · exact (ho g hg).imp .inr id)
    exact (m1.kept k3 (fun g hg => .inl (.inr (.inl hg)))).more (fun g hg => by
      rcases hg with hg | hg
      · exact .inl (.inl (fun b => hg (.inl b)))
      · exact .inl (.inr (.inr hg)))
end Go.Proofs.YtpjnbhflnbhnoaaGreatDoor

namespace Go.Proofs.YtpjnbhflnbhnoaaGreatDoor
open Go.RowKit
set_option linter.unusedVariables false
theorem mine_blk {K : Nat → Prop} {v : Value} {l : List By} {w : World} (h : Mine K v l w) : ∃ X : Nat → Prop, (∀ k, X k → ¬ K k ∧ k < w.heap.size) ∧ ∀ K' : Nat → Prop, (∀ k, K' k → ¬ X k) → Mine K' v l w := by
  rcases h with h | ⟨g, hg, hO⟩
  · exact ⟨fun _ => False, fun k h => h.elim, fun K' _ => .inl h⟩
  · exact ⟨fun k => k = g, fun k hk => by subst hk; exact ⟨hg, hO.lt⟩, fun K' hk => .inr ⟨g, fun hg' => hk g hg' rfl, hO⟩⟩
/-- Bytes that lay there at w0 grow at w: nothing that came since changes. -/
theorem mine_grow (K : Nat → Prop) (w0 w : World) (f : Nw w0 w) (hK : ∀ k, K k → k < w.heap.size) (v : Value) (l : List By) (h : Mine K v l w0) (x : Value) (m : List By) (hx : Sl (fun _ => False) x m w) (hb : l.length + m.length ≤ 200000000000000) :
    ∃ v' W, (∀ ty, (Builtin.append_ #[22, 22] ty #[v, x]).run Tryz.prog w = .ok v' W) ∧ Mine K v' (l ++ m) W ∧ Fr (fun k => ¬ K k ∧ k < w0.heap.size) w W := by
  obtain ⟨X, hX, hm⟩ := mine_blk h
  obtain ⟨v', W, k1, k2, k3⟩ := mine_app (fun k => ¬ X k ∧ k < w.heap.size) w (fun k hk => hk.2) v l ((hm _ (fun k hk => hk.1)).nw f) x m hx hb
  refine ⟨v', W, k1, k2.more (fun g hg => .inl ⟨fun hx => (hX g hx).1 hg, hK g hg⟩), k3.mono (fun i hi => ?_)⟩
  by_cases hx : X i
  · exact .inl (hX i hx)
  · refine .inr ?_
    by_cases hs : i < w.heap.size
    · exact (hi ⟨hx, hs⟩).elim
    · omega
/-- How Decode's loop stands at the place p. -/
structure DcI (b : List By) (most : Int) (w0 : World) (k p : Nat) (out : List By) (ms : List Md) (B : Nat → Prop) (og : Option Nat) (xs : List Mx) (vp vm : Value) (w : World) : Prop where
  fuel : b.length < p + k
  ple : p ≤ b.length
  run : decL b (zlen b b.length) most k p out ms = decZ b most
  sm : (ms.length = 0 ∧ out = []) ∨ (0 ≤ most ∧ most ≤ 4194304 ∧ out.length ≤ 8388608)
  cnt : 8 * ms.length ≤ p
  pl : Mine (fun k => k < w0.heap.size ∨ B k) vp out w
  mm : MsI w0.heap.size B og vm ms xs w
  nw : Nw w0 w
theorem DcI.start (b : List By) (most : Int) (w : World) : DcI b most w (b.length + 1) 0 [] [] (fun _ => False) none [] (.slice none 0 0) (.slice none 0 0) w :=
  ⟨by omega, by omega, rfl, .inl ⟨rfl, rfl⟩, by simp, Mine.nil _ _, MsI.nil _ _, Fr.refl _ _⟩
theorem DcI.done {b : List By} {most : Int} {w0 : World} {k p : Nat} {out : List By} {ms : List Md} {B : Nat → Prop} {og : Option Nat} {xs : List Mx} {vp vm : Value} {w : World} (h : DcI b most w0 k p out ms B og xs vp vm w) (hn : ¬ (ms.length = 0 ∨ p < zlen b b.length)) : decZ b most = .ok out ms := by
  obtain ⟨j, rfl⟩ : ∃ j, k = j + 1 := ⟨k - 1, by have := h.fuel; have := h.ple; omega⟩
  rw [← h.run, decL_done hn]
theorem DcI.bad {b : List By} {most : Int} {w0 : World} {k p : Nat} {out : List By} {ms : List Md} {B : Nat → Prop} {og : Option Nat} {xs : List Mx} {vp vm : Value} {w : World} (h : DcI b most w0 k p out ms B og xs vp vm w) (hn : ms.length = 0 ∨ p < zlen b b.length) {y : Nat} (e : oneZ (b.drop p) (most - out.length) = .bad y) : decZ b most = .bad (if y = 130 ∧ 0 < ms.length then 5 else y) := by
  obtain ⟨j, rfl⟩ : ∃ j, k = j + 1 := ⟨k - 1, by have := h.fuel; have := h.ple; omega⟩
  rw [← h.run, decL_bad hn e]
end Go.Proofs.YtpjnbhflnbhnoaaGreatDoor

namespace Go.Proofs.YtpjnbhflnbhnoaaGreatDoor
open Go.RowKit
set_option linter.unusedVariables false
set_option maxHeartbeats 1000000 in
/-- One more member was read. -/
theorem DcI.step {b : List By} {most : Int} {w0 : World} {k p : Nat} {out : List By} {ms : List Md} {B : Nat → Prop} {og : Option Nat} {xs : List Mx} {vp vm : Value} {w w1 V : World} (h : DcI b most w0 k p out ms B og xs vp vm w) (hn : ms.length = 0 ∨ p < zlen b b.length) {o : List By} {m : Md} {n : Nat} (e : oneZ (b.drop p) (most - out.length) = .ok o m n) (hnl : n ≤ (b.drop p).length) (ho : o.length ≤ 4194304) (hs : b.length ≤ 20000000000000) {vo v : Value} (hvo : Mine (fun k => k < w.heap.size) vo o w1) (hv : vM w.heap.size m v w1) (f1 : Nw w w1) (fV : Nw w1 V) :
    ∃ x : Mx, v = .agg (RM.enc x).toArray ∧ ∃ vp' W, Hid (∀ ty, (Builtin.append_ #[22, 22] ty #[vp, vo]).run Tryz.prog V = .ok vp' W) ∧ Fr (fun k => k < w.heap.size) V W ∧
      Hid (∀ V2, Nw W V2 → ∃ a' c' W2 og' B', Hid (∀ ty, (Builtin.append_ #[37, 37] ty #[vm, .slice (some ⟨V2.heap.size, 0, none⟩) 1 1]).run Tryz.prog (V2.alloc (.cells (RM.enc x).toArray 25)) = .ok (.slice a' (ms.length + 1) c') W2) ∧ DcI b most w0 (k - 1) (p + n) (out ++ o) (ms ++ [m]) B' og' (xs ++ [x]) vp' (.slice a' (ms.length + 1) c') W2 ∧ ms.length + 1 ≤ c' ∧ c' < 9223372036854775808) := by
  obtain ⟨ea, en, ec, rfl, rfl, hE⟩ := hv
  refine ⟨(m, ea, ec), rfl, ?_⟩
  obtain ⟨X, hX, hXm⟩ := mine_blk (hE.nw fV)
  have fw : Nw w V := f1.trans fV
  have hD : w0.heap.size ≤ w.heap.size := h.nw.size
  have hDV : w.heap.size ≤ V.heap.size := fw.size
  have mm1 := (h.mm.keep fw (fun _ h => h.elim)).wider X (fun k hk => ⟨by have := (hX k hk).1; omega, (hX k hk).2⟩)
  have hlow : ∀ k, (k < w0.heap.size ∨ (B k ∨ X k)) → k < V.heap.size := fun k hk => by
    rcases hk with hk | hk
    · omega
    · exact (mm1.low k hk).2
  have hpos := one_pos e
  have hsm := h.sm
  have hol : out.length ≤ 4194304 := by
    rcases hsm with ⟨_, e0⟩ | ⟨_, _, _⟩
    · rw [e0]; simp
    · omega
  obtain ⟨vp', W, g1, g2, g3⟩ := mine_grow (fun k => k < w0.heap.size ∨ (B k ∨ X k)) w V fw hlow vp out (h.pl.more (fun g hg => by
    rcases hg with hg | hg | hg
    · exact .inl (.inl hg)
    · exact .inl (.inr hg)
    · exact .inr (by have := (hX g hg).1; omega))) vo o ((hvo.nw fV).sl.mono (fun _ h => h.elim)) (by omega)
  refine ⟨vp', W, g1, g3.mono (fun i hi => .inl hi.2), fun V2 f2 => ?_⟩
  have mm2 := mm1.keep g3 (fun k hk hb => hk.1 (.inr hb))
  have ex2 := (hXm (fun k => ¬ (B k ∨ X k) ∨ og = some k) (fun k hk hx => by
    rcases hk with hk | hk
    · exact hk (.inr hx)
    · have := (h.mm.low k (h.mm.mem k hk)).2
      exact (hX k hx).1 this)).kept g3 (fun g hg => .inl (.inl (fun hb => hg.1 (.inr hb))))
  have hDW : V.heap.size ≤ W.heap.size := g3.size
  have hDV2 : W.heap.size ≤ V2.heap.size := f2.size
  have hc := h.cnt
  have hp := h.ple
  have hfu := h.fuel
  rw [List.length_drop] at hnl
  obtain ⟨a', c', W2, og', p1, p2, p3, p4, p5, p6⟩ := (mm2.keep f2 (fun _ h => h.elim)).push (by omega) (by omega) (m, ea, ec) (ex2.nw f2)
  obtain ⟨j, rfl⟩ : ∃ j, k = j + 1 := ⟨k - 1, by omega⟩
  refine ⟨a', c', W2, og', _, p1, ⟨by omega, by omega, ?_, .inr ?_, ?_, ?_, p2, ?_⟩, p5, p6⟩
  · rw [← h.run, decL_ok hn e, Nat.add_sub_cancel]
  · rw [List.length_append]
    rcases hsm with ⟨_, e0⟩ | ⟨_, _, _⟩
    · rw [e0] at hpos ⊢
      simp at hpos ⊢
      omega
    · omega
  · rw [List.length_append, List.length_singleton]; omega
  · refine ((g2.nw f2).more (fun g hg => ?_)).kept (K := fun k => k < w0.heap.size ∨ ((B k ∨ X k) ∨ og' = some k)) p3 (fun g hg => .inl (.inr (.inl (.inl (h.mm.mem g hg)))))
    rcases hg with hg | hg | hg
    · exact .inl (.inl hg)
    · exact .inl (.inr hg)
    · exact (p4 g hg).imp .inr id
  · have n1 : Nw w0 W := (h.nw.trans fw).then g3 (fun i hi => .inr (by
      have : ¬ i < w0.heap.size := fun hlt => hi.1 (.inl hlt)
      omega))
    exact (n1.trans f2).then p3 (fun i hi => .inr (h.mm.low i (h.mm.mem i hi)).1)
end Go.Proofs.YtpjnbhflnbhnoaaGreatDoor

namespace Go.Proofs.YtpjnbhflnbhnoaaGreatDoor
open Go.RowKit
set_option linter.unusedVariables false
theorem sl_suf {X : Nat → Prop} {a : Option Addr} {n c : Nat} {l : List By} {w : World} (h : Sl X (.slice a n c) l w) (hn : l.length = n) (q : Nat) (hq : q ≤ n) :
    (c ≤ q → ∀ x, Sl X (.slice x (n - q) 0) (l.drop q) w) ∧ (q < c → ∃ g o, a = some ⟨g, o, none⟩ ∧ Sl X (.slice (some ⟨g, o + q, none⟩) (n - q) (c - q)) (l.drop q) w) ∧ n ≤ c ∧ c < 9223372036854775808 := by
  rcases h with ⟨a', e, rfl⟩ | ⟨g, hg, o, c', e, e1, e2, e3⟩
  · cases e
    obtain rfl : q = 0 := by simpa using hq
    exact ⟨fun _ x => .inl ⟨x, rfl, rfl⟩, fun h => by omega, by omega, by omega⟩
  · injection e with ea en ec
    subst ec
    refine ⟨fun h x => .inl ⟨x, by rw [show n - q = 0 by omega], List.drop_eq_nil_of_le (by omega)⟩, fun h => ⟨g, o, ea, .inr ⟨g, hg, o + q, c - q, ?_, ?_, by omega, e3.drop q⟩⟩, by omega, by omega⟩
    · rw [List.length_drop, hn]
    · rw [List.length_drop]; omega
/-- What One left behind, in Decode. -/
def OnC (b : List By) (MM : Int) (w : World) (v11 v12 v13 v14 : Value) (wx : World) : Prop :=
  ∃ w1 blk, v12 = .pointer (some ⟨blk, 0, none⟩) ∧ Nw w w1 ∧ blk = w1.heap.size ∧
    ((∃ y : Nat, oneZ b MM = .bad y ∧ y ≠ 0 ∧ v11 = .slice none 0 0 ∧ v13 = .int .i64 0 ∧ v14 = .int .i64 (y : Nat) ∧ wx = w1.alloc (.cells zrow 25)) ∨
     (∃ out m n pa ol pc ea ec, out.length = ol ∧ oneZ b MM = .ok out m n ∧ v11 = .slice pa ol pc ∧ v13 = .int .i64 (n : Nat) ∧ v14 = .int .i64 0 ∧ wx = w1.alloc (.cells (RM.enc (m, ea, ec)).toArray 25) ∧ Mine (fun k => k < w.heap.size) (.slice pa ol pc) out w1 ∧ vM w.heap.size m (.agg (RM.enc (m, ea, ec)).toArray) w1 ∧ n ≤ b.length ∧ ol ≤ 4194304))
/-- What Decode answers. -/
def DcA (b : List By) (most : Int) (w : World) (e : Ending) (w' : World) : Prop :=
  (∃ y, decZ b most = .bad y ∧ y ≠ 0 ∧ e = .returned (.tuple #[.slice none 0 0, .slice none 0 0, .int .i64 (y : Nat)]) ∧ Nw w w') ∨
  (∃ out ms B og xs vp vm, decZ b most = .ok out ms ∧ e = .returned (.tuple #[vp, vm, .int .i64 0]) ∧ Mine (fun k => k < w.heap.size ∨ B k) vp out w' ∧ MsI w.heap.size B og vm ms xs w' ∧ Nw w w')
set_option maxHeartbeats 16000000 in
set_option maxRecDepth 100000 in
theorem zdecode_any (w : World) (a : Option Addr) (c : Nat) (b : List By) (most : Int) (hb : Old w (.slice a b.length c) b) (hbl : b.length ≤ 20000000000000) (hm1 : -9223372036854775808 ≤ most) (hm2 : most < 9223372036854775808) (hT : TabT w) (hI : Tab w) (h0 : 0 < w.heap.size) :
    Calls Tryz.prog 20 #[.slice a b.length c, .int .i64 most] w (DcA b most w) := by
  obtain ⟨P, hP⟩ : ∃ P : Ending → World → Prop, P = DcA b most w := ⟨_, rfl⟩
  rw [← hP]
  have HT : Hid (Calls Tryz.prog 42 #[.slice a b.length c, .string ⟨#[0]⟩] w fun e w' => e = .returned (.slice a (zlen b b.length) c) ∧ w = w') := trimr_any w a c b hb (by omega)
  have HE : Hid (∀ k p out ms B og xs vp vm wr, DcI b most w k p out ms B og xs vp vm wr → ¬ (ms.length = 0 ∨ p < zlen b b.length) → P (.returned (.tuple #[vp, vm, .int .i64 0])) wr) := fun k p out ms B og xs vp vm wr h hn => by
    rw [hP]; exact .inr ⟨out, ms, B, og, xs, vp, vm, h.done hn, rfl, h.pl, h.mm, h.nw⟩
  have HS : Hid (DcI b most w (b.length + 1) 0 [] [] (fun _ => False) none [] (.slice none 0 0) (.slice none 0 0) w) := DcI.start b most w
  have hz := zlen_le b b.length
  obtain ⟨Z, hZ⟩ : ∃ Z, zlen b b.length = Z := ⟨_, rfl⟩
  obtain ⟨L, hL⟩ : ∃ L, b.length = L := ⟨_, rfl⟩
  rw [hZ] at HT HE hz
  rw [hL] at HT HS hz hbl ⊢
  go_enter Tryz.func20, Tryz.ntmps20
  go_wp2_with (first | (go_at_call 42; with_reducible refine HT.out.mono ?_; rintro e w1 ⟨rfl, rfl⟩))
  go_loopg [7, 8, 10] (L + 1) (fun kx v7 v8 v10 wr => ∃ (p n7 c7 n8 c8 : Nat) (a7 a8 : Option Addr), p ≤ L ∧ L < p + kx ∧ v7 = .slice a7 n7 c7 ∧ v8 = .slice a8 n8 c8 ∧ v10 = .int .i64 p ∧ n8 ≤ L ∧ Hid (∃ k out ms B og xs, out.length = n7 ∧ ms.length = n8 ∧ DcI b most w k p out ms B og xs (.slice a7 n7 c7) (.slice a8 n8 c8) wr))
  case atStart => exact ⟨0, 0, 0, 0, 0, none, none, by omega, by omega, rfl, rfl, rfl, by omega, ⟨L + 1, [], [], _, _, _, rfl, rfl, HS.out⟩⟩
  case round =>
    obtain ⟨p, n7, c7, n8, c8, a7, a8, hp, hk, rfl, rfl, rfl, hn8, HR⟩ := hrel
    by_cases hd : n8 = 0 ∨ p < Z
    · have hcond : ((n8 : Int) == 0) = true ∨ (((n8 : Int) == 0) = false ∧ (p : Int) < (Z : Int)) := by
        by_cases h : n8 = 0
        · left; subst h; rfl
        · right; exact ⟨by rw [beq_eq_false_iff_ne]; omega, by omega⟩
      have hHR := HR.out
      obtain ⟨k, out, ms, B, og, xs, h1, h2, h4⟩ := hHR
      have hn : ms.length = 0 ∨ p < zlen b b.length := by rw [h2, hZ]; exact hd
      have hbig : n7 ≤ 8388608 ∧ (n7 = 0 ∨ (0 ≤ most ∧ most ≤ 4194304)) := by
        rcases h4.sm with ⟨_, e⟩ | ⟨q1, q2, q3⟩
        · rw [e] at h1; simp at h1; omega
        · omega
      obtain ⟨MM, hMM⟩ : ∃ MM : Int, most - (n7 : Int) = MM := ⟨_, rfl⟩
      have hMM2 : most - (out.length : Int) = MM := by rw [h1]; exact hMM
      have hMw : IntKind.i64.wrap (most - (n7 : Int)) = MM := by rw [IntKind.wrap_i64]; omega
      have hold : Old wr (.slice a L c) b := by rw [← hL]; exact Sl.later hb h4.nw
      obtain ⟨hs1, hs2, hLc, hc63⟩ := sl_suf hold hL p hp
      have hdl : (b.drop p).length = L - p := by rw [List.length_drop, hL]
      have HONE : Hid (∀ x cc, Old wr (.slice x (L - p) cc) (b.drop p) → Calls Tryz.prog 19 #[.slice x (L - p) cc, .int .i64 MM] wr (OnA (b.drop p) MM wr)) := fun x cc hx => by
        have := zone_any wr x cc (b.drop p) MM (by rw [hdl]; exact hx) (by rw [hdl]; omega) (hT.nw h4.nw) (hI.kept h4.nw (fun e => e)) (Nat.lt_of_lt_of_le h0 h4.nw.size)
        rw [hdl] at this
        exact this
      have HST := toHid2 (And.intro h4 (And.intro hn (And.intro h1 (And.intro h2 (And.intro hMM2 hdl)))))
      have HLL : Hid (b.length = L ∧ zlen b b.length = Z) := ⟨hL, hZ⟩
      have HP : Hid (P = DcA b most w) := hP
      have hp2 : (p : Int) ≤ (L : Int) := by omega
      have hlc2 : (L : Int) ≤ (c : Int) := by omega
      have HSA : Hid (c ≤ p → ∀ x, Old wr (.slice x (L - p) 0) (b.drop p)) := hs1
      have HSB : Hid (p < c → ∃ g o, a = some ⟨g, o, none⟩ ∧ Old wr (.slice (some ⟨g, o + p, none⟩) (L - p) (c - p)) (b.drop p)) := hs2
      have HKX := toHid2 hk
      have HBL : Hid (L ≤ 20000000000000) := hbl
      clear HE HR HS HT hP hb hT hI h1 h2 h4 hn hMM2 hold hs1 hs2 hdl hL hZ hd hk
      go_upto_region 5 with fail
      go_cut [25] (fun v wx => v = .bool true ∧ wx = wr)
      case first =>
        clear HONE HST HLL HP HSA HSB HKX
        rcases hcond with e | ⟨e, e2⟩
        · go_wp2_with fail
          go_meet
          exact ⟨rfl, rfl⟩
        · go_wp2_with fail
          go_meet
          exact ⟨rfl, rfl⟩
      case rest =>
      obtain ⟨rfl, hw⟩ := hcut
      have hw' := hw.symm
      subst hw'
      clear hw hcond
      go_upto_region 6 with fail
      go_cut [11, 12, 13, 14] (fun v11 v12 v13 v14 wx => Hid (OnC (b.drop p) MM wr v11 v12 v13 v14 wx))
      case first =>
        have HIN : Hid (∀ e w1, OnA (b.drop p) MM wr e w1 → (∃ y : Nat, e = .returned (.tuple #[.slice none 0 0, .agg #[.string ⟨#[]⟩, .string ⟨#[]⟩, .slice none 0 0, .int .u32 0, .int .u8 0, .int .u8 0, .bool false, .bool false], .int .i64 0, .int .i64 (y : Nat)]) ∧ Hid (OnC (b.drop p) MM wr (.slice none 0 0) (.pointer (some ⟨w1.heap.size, 0, none⟩)) (.int .i64 0) (.int .i64 (y : Nat)) (w1.alloc (.cells zrow 25)))) ∨
            (∃ pa ol pc n ea el ec nm cm tm fl sy tx sm, e = .returned (.tuple #[.slice pa ol pc, .agg #[.string nm, .string cm, .slice ea el ec, .int .u32 tm, .int .u8 fl, .int .u8 sy, .bool tx, .bool sm], .int .i64 (n : Nat), .int .i64 0]) ∧ Hid (OnC (b.drop p) MM wr (.slice pa ol pc) (.pointer (some ⟨w1.heap.size, 0, none⟩)) (.int .i64 (n : Nat)) (.int .i64 0) (w1.alloc (.cells #[.string nm, .string cm, .slice ea el ec, .int .u32 tm, .int .u8 fl, .int .u8 sy, .bool tx, .bool sm] 25))))) := fun e w1 h => by
          rcases h with ⟨y, q1, q2, q3, q4⟩ | ⟨o, m, n, pa, pc, v, q1, q2, q3, q4, q5, q6, q7⟩
          · exact .inl ⟨y, q3, w1, _, rfl, q4, rfl, .inl ⟨y, q1, q2, rfl, rfl, rfl, rfl⟩⟩
          · have q4' := q4
            obtain ⟨ea, en, ec, rfl, rfl, hE⟩ := q4
            exact .inr ⟨pa, o.length, pc, n, ea, m.ex.length, ec, _, _, _, _, _, _, _, q2, w1, _, rfl, q5, rfl, .inr ⟨o, m, n, pa, o.length, pc, ea, ec, rfl, q1, rfl, rfl, rfl, rfl, q3, q4', q6, q7⟩⟩
        clear HST HLL HP HKX
        by_cases hcp : c ≤ p
        · have HD := toHid2 (fun x => (HONE.out x 0 (HSA.out hcp x)).mono HIN.out)
          clear HONE HSA HSB HIN
          go_wp2_with fail
          go_at_call 19
          with_reducible refine (HD.out _).mono ?_
          rintro e w1 (⟨y, rfl, HG⟩ | ⟨pa, ol, pc, n, ea, el, ec, nm, cm, tm, fl, sy, tx, sm, rfl, HG⟩)
          · go_wp2_with fail
            go_meet
            exact HG
          · go_wp2_with fail
            go_meet
            exact HG
        · obtain ⟨g, o, rfl, ho⟩ := HSB.out (by omega)
          have HD := toHid2 ((HONE.out _ _ ho).mono HIN.out)
          clear HONE HSA HSB HIN ho
          go_wp2_with fail
          go_at_call 19
          with_reducible refine HD.out.mono ?_
          rintro e w1 (⟨y, rfl, HG⟩ | ⟨pa, ol, pc, n, ea, el, ec, nm, cm, tm, fl, sy, tx, sm, rfl, HG⟩)
          · go_wp2_with fail
            go_meet
            exact HG
          · go_wp2_with fail
            go_meet
            exact HG
      case rest =>
      clear HONE HSA HSB
      obtain ⟨w1, blk, rfl, hN1, hblk, hways⟩ := hcut.out
      obtain ⟨wx, hwx⟩ : ∃ z, z = wc := ⟨_, rfl⟩
      subst hwx
      rcases hways with ⟨y, q1, q2, rfl, rfl, rfl, q3⟩ | ⟨o, m, n, pa, ol, pc, ea, ec, q0, q1, rfl, rfl, rfl, q3, q4, q5, q6, q7⟩
      · have hres : decZ b most = .bad (if y = 130 ∧ 0 < n8 then 5 else y) := by
          obtain ⟨h4, hn, h1, h2, hMM2, hdl⟩ := HST.out
          have := h4.bad hn (by rw [hMM2]; exact q1)
          rw [h2] at this
          exact this
        have hNx : Nw w wx := by
          rw [q3]
          exact (HST.out.1.nw.trans hN1).alloc _
        have y0 : ((y : Int) == 0) = false := by rw [beq_eq_false_iff_ne]; omega
        have y00 : ¬ (y : Int) = 0 := by omega
        by_cases h130 : y = 130 ∧ 0 < n8
        · rw [if_pos h130] at hres
          have HF : Hid (P (.returned (.tuple #[.slice none 0 0, .slice none 0 0, .int .i64 5])) wx) := by
            show P _ _
            rw [HP.out]; exact .inl ⟨5, hres, by decide, rfl, hNx⟩
          obtain ⟨rfl, hn0⟩ := h130
          have d1 : (0 : Int) < (n8 : Int) := by omega
          have d2 : decide ((0 : Int) < (n8 : Int)) = true := decide_eq_true d1
          have d3 : decide (0 < n8) = true := decide_eq_true hn0
          clear HST HLL HP HKX hcut hN1 hblk q1 q2 q3 hres hNx
          go_wp2_with fail
          exact HF.out
        · rw [if_neg h130] at hres
          have HF : Hid (P (.returned (.tuple #[.slice none 0 0, .slice none 0 0, .int .i64 (y : Nat)])) wx) := by
            show P _ _
            rw [HP.out]; exact .inl ⟨y, hres, q2, rfl, hNx⟩
          by_cases hy : y = 130
          · subst hy
            have hn0 : n8 = 0 := by omega
            subst hn0
            clear HST HLL HP HKX hcut hN1 hblk q1 q2 q3 hres hNx h130
            go_wp2_with fail
            exact HF.out
          · have d1 : ((y : Int) == 130) = false := by rw [beq_eq_false_iff_ne]; omega
            clear HST HLL HP HKX hcut hN1 hblk q1 q2 q3 hres hNx h130
            go_wp2_with fail
            exact HF.out
      · obtain ⟨nm, hnm⟩ : ∃ s, str m.nm = s := ⟨_, rfl⟩
        obtain ⟨cm, hcm⟩ : ∃ s, str m.cm = s := ⟨_, rfl⟩
        obtain ⟨el, hel⟩ : ∃ s, m.ex.length = s := ⟨_, rfl⟩
        obtain ⟨tm, htm⟩ : ∃ s : Int, (m.tm : Int) = s := ⟨_, rfl⟩
        obtain ⟨fl, hfl⟩ : ∃ s : Int, (m.fl.toNat : Int) = s := ⟨_, rfl⟩
        obtain ⟨sy, hsy⟩ : ∃ s : Int, (m.sy.toNat : Int) = s := ⟨_, rfl⟩
        obtain ⟨tx, htx⟩ : ∃ s, m.tx = s := ⟨_, rfl⟩
        obtain ⟨sm, hsm⟩ : ∃ s, m.sm = s := ⟨_, rfl⟩
        have hrow : (RM.enc (m, ea, ec)).toArray = #[.string nm, .string cm, .slice ea el ec, .int .u32 tm, .int .u8 fl, .int .u8 sy, .bool tx, .bool sm] := by
          rw [← hnm, ← hcm, ← hel, ← htm, ← hfl, ← hsy, ← htx, ← hsm]; rfl
        have HALL : Hid (∃ a7' n7' c7' W, Hid (∀ ty, (Builtin.append_ #[22, 22] ty #[.slice a7 n7 c7, .slice pa ol pc]).run Tryz.prog wx = .ok (.slice a7' n7' c7') W) ∧ W.heap[blk]? = some (.cells #[.string nm, .string cm, .slice ea el ec, .int .u32 tm, .int .u8 fl, .int .u8 sy, .bool tx, .bool sm] 25) ∧ ∃ a8' c8' W2, Hid (∀ ty, (Builtin.append_ #[37, 37] ty #[.slice a8 n8 c8, .slice (some ⟨W.heap.size, 0, none⟩) 1 1]).run Tryz.prog (W.alloc (.cells #[.string nm, .string cm, .slice ea el ec, .int .u32 tm, .int .u8 fl, .int .u8 sy, .bool tx, .bool sm] 25)) = .ok (.slice a8' (n8 + 1) c8') W2) ∧ p + n ≤ L ∧ 1 ≤ n ∧ n8 + 1 ≤ L ∧ Hid (∃ k out ms B og xs, out.length = n7' ∧ ms.length = n8 + 1 ∧ DcI b most w k (p + n) out ms B og xs (.slice a7' n7' c7') (.slice a8' (n8 + 1) c8') W2)) := by
          obtain ⟨h4, hn, h1, h2, hMM2, hdl⟩ := HST.out
          have hbl := HLL.out.1
          have fV : Nw w1 wx := by rw [q3]; exact (Fr.refl _ _).alloc _
          subst q0
          have hrl : wx.heap[blk]? = some (.cells (RM.enc (m, ea, ec)).toArray 25) := by rw [q3, hblk]; exact new_heap _ _
          obtain ⟨x, hx, vp', W, HA, hF, HB2⟩ := h4.step hn (by rw [hMM2]; exact q1) q6 q7 (by rw [hbl]; exact HBL.out) q4 q5 hN1 fV
          injection hx with hx
          rw [← hx, hrow] at HB2
          obtain ⟨a', c', W2, og', B', HA2, hD, e1, e2⟩ := HB2.out W (Fr.refl _ _)
          obtain ⟨a7', c7', hv, _, _⟩ := hD.pl.sl.form
          subst hv
          have hpos := one_pos q1
          have hcnt := hD.cnt
          have hple := hD.ple
          rw [hbl] at hple
          rw [List.length_append, List.length_singleton, h2] at hcnt
          rw [h2] at HA2 hD
          refine ⟨a7', _, c7', W, HA, ?_, a', c', W2, HA2, hple, by omega, by omega, k - 1, _, _, B', og', _, rfl, by rw [List.length_append, List.length_singleton, h2], hD⟩
          rw [← hrow]
          have hsz := hN1.size
          exact (hF.block blk (Array.getElem?_eq_some_iff.1 hrl).1 (by omega)).trans hrl
        clear hnm hcm hel htm hfl hsy htx hsm hrow hcut hN1 hblk q0 q1 q3 q4 q5 q6 HST HP
        obtain ⟨a7', n7', c7', W, HA, hrowW, a8', c8', W2, HA2, z1, z2, z3, HD⟩ := HALL.out
        have hi8 : (Tryz.prog.info? 25).map (·.size) = some (#[Value.string nm, .string cm, .slice ea el ec, .int .u32 tm, .int .u8 fl, .int .u8 sy, .bool tx, .bool sm] : Array Value).size := by kernel_rfl
        have HI8 := toHid2 hi8
        obtain ⟨PN, hPN⟩ : ∃ PN, PN = p + n := ⟨_, rfl⟩
        rw [← hPN] at HD z1
        have s1 : (p : Int) + (n : Int) = (PN : Int) := by omega
        have s2 : IntKind.i64.wrap ((p : Int) + (n : Int)) = (PN : Int) := by rw [IntKind.wrap_i64]; have := HBL.out; omega
        have HPN := toHid2 hPN
        have HRW := toHid2 hrowW
        clear HALL hPN hi8 hrowW
        go_wp2_with (first
          | (at_builtin; refine Lib.wpList_append_run _ rfl _ _ 22 22 rfl (.slice a7 n7 c7) (.slice pa ol pc) (by simp [Act.eval]) (by simp [Act.eval]) _ _ (HA.out _) ?_)
          | (refine wpList_load_row rfl 25 _ rfl blk (by first | rfl | simp [Act.eval]) 25 _ (0, 0) _ HRW.out Tryz.underlying25 rfl HI8.out ?_)
          | (at_builtin; refine Lib.wpList_append_run _ rfl _ _ 37 37 rfl (.slice a8 n8 c8) (.slice (some ⟨W.heap.size, 0, none⟩) 1 1) (by simp [Act.eval]) (by simp [Act.eval]) _ _ (HA2.out _) ?_))
        go_roundg (L + 1 - PN)
        case measure => have h1 := HKX.out; have h2 := HPN.out; omega
        case rel => exact ⟨PN, n7', c7', n8 + 1, c8', a7', a8', z1, by omega, rfl, rfl, rfl, z3, HD⟩
    · have d1 : ¬ (n8 : Int) = 0 := by omega
      have d2 : ¬ (p : Int) < (Z : Int) := by omega
      have d3 : ((n8 : Int) == 0) = false := by rw [beq_eq_false_iff_ne]; exact d1
      have HF : Hid (P (.returned (.tuple #[.slice a7 n7 c7, .slice a8 n8 c8, .int .i64 0])) wr) := by
        obtain ⟨k, out, ms, B, og, xs, h1, h2, h4⟩ := HR.out
        exact HE.out _ _ _ _ _ _ _ _ _ _ h4 (by rw [h2]; exact hd)
      clear HE HR HS HT hP hb hT hI
      go_wp2_with fail
      exact HF.out
end Go.Proofs.YtpjnbhflnbhnoaaGreatDoor
