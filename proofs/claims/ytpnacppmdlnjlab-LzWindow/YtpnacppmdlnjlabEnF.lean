import Derived.Test.YtpnacppmdlnjlabEnE
namespace Go.Proofs.Ytpnacppmdlnjlab
open Go.RowKit
set_option linter.unusedVariables false
/-- What find answers. -/
def Fnd (pb gT cT nb fb : Nat) (T : List By) (at' : Nat) (V : World) (e : Ending) (w' : World) : Prop :=
  ∃ q : Nat, e = .returned (.tuple #[.int .i64 q, .bool (fnd T at').isSome]) ∧ (∀ f, fnd T at' = some f → q = f) ∧ ∃ nb' fb', PLs pb gT cT nb' fb' at' T w' ∧ Fr (fun k => k = pb ∨ k = nb ∨ k = fb) V w' ∧ ((nb' = nb ∧ fb' = fb) ∨ (nb' = fb ∧ fb' = nb))
theorem find_chain (V : World) (pb gT cT nb fb nx : Nat) (T : List By) (h : PLs pb gT cT nb fb nx T V) (at' : Nat) (hn : nx ≤ at') (ha : at' + 4 ≤ T.length) (hT : T.length ≤ 100000000) (P : Ending → World → Prop) (hP : P = Fnd pb gT cT nb fb T at' V) :
    Hid (Calls Try.prog 23 #[.pointer (some ⟨pb, 0, none⟩), .int .i64 ((at' : Int) - 1)] V fun e w1 => (∃ r, e = .returned r) ∧ Hid (Calls Try.prog 24 #[.pointer (some ⟨pb, 0, none⟩), .int .i64 at'] w1 fun e w2 => e = .returned (.agg #[.int .u8 T[at'].toNat, .int .u8 T[at' + 1].toNat, .int .u8 T[at' + 2].toNat, .int .u8 T[at' + 3].toNat]) ∧ ∃ nb' fb', pb < w2.heap.size ∧ w2.cell? ⟨pb, 1, none⟩ = some (.map (some nb')) ∧ w2.cell? ⟨pb, 2, none⟩ = some (.map (some fb')) ∧
      Hid (∀ W, Nw w2 W → (Instr.lookup 51 (.map (some nb')) (.agg #[.int .u8 T[at'].toNat, .int .u8 T[at' + 1].toNat, .int .u8 T[at' + 2].toNat, .int .u8 T[at' + 3].toNat]) true).run Try.prog W = .ok (.tuple #[.int .i64 (((ups T at').1 (kat T at')).getD 0 : Nat), .bool ((ups T at').1 (kat T at')).isSome]) W) ∧
      Hid (∀ W, Nw w2 W → (Instr.lookup 51 (.map (some fb')) (.agg #[.int .u8 T[at'].toNat, .int .u8 T[at' + 1].toNat, .int .u8 T[at' + 2].toNat, .int .u8 T[at' + 3].toNat]) true).run Try.prog W = .ok (.tuple #[.int .i64 (((ups T at').2 (kat T at')).getD 0 : Nat), .bool ((ups T at').2 (kat T at')).isSome]) W) ∧
      Hid (∀ W (q : Nat) (b : Bool), Nw w2 W → b = (fnd T at').isSome → (∀ f, fnd T at' = some f → q = f) → P (.returned (.tuple #[.int .i64 q, .bool b])) W))) := by
  show Calls _ _ _ _ _
  refine (note_any V pb gT cT nb fb nx T h at' hn (by omega) hT).mono ?_
  rintro e w1 ⟨hr, nb', fb', hL, hF, hnf⟩
  refine ⟨hr, ?_⟩
  show Calls _ _ _ _ _
  refine (key_any w1 pb gT cT nb' fb' at' T hL at' ha hT).mono ?_
  rintro e w2 ⟨rfl, hN⟩
  have hL2 := hL.nw hN
  have hkv : kv (kat T at') = .agg #[.int .u8 T[at'].toNat, .int .u8 T[at' + 1].toNat, .int .u8 T[at' + 2].toNat, .int .u8 T[at' + 3].toNat] := by rw [kat_four ha]; rfl
  obtain ⟨c0, c1, c2, c3⟩ := hL2.cell
  refine ⟨by rw [hkv], nb', fb', (Array.getElem?_eq_some_iff.1 hL2.blk).1, c1, c2, ?_, ?_, ?_⟩
  · intro W hW
    have := (hL2.near.nw hW).look (kat T at') (kat_len ha)
    rw [hkv] at this; exact this
  · intro W hW
    have := (hL2.far.nw hW).look (kat T at') (kat_len ha)
    rw [hkv] at this; exact this
  · intro W q b hW hb hq
    rw [hP]
    exact ⟨q, by rw [hb], hq, nb', fb', hL2.nw hW, (hF.trans hN.any).trans hW.any, hnf⟩
set_option maxHeartbeats 16000000 in
set_option maxRecDepth 100000 in
theorem find_any (V : World) (pb gT cT nb fb nx : Nat) (T : List By) (h : PLs pb gT cT nb fb nx T V) (at' : Nat) (hn : nx ≤ at') (ha : at' + 4 ≤ T.length) (hT : T.length ≤ 100000000) :
    Calls Try.prog 15 #[.pointer (some ⟨pb, 0, none⟩), .int .i64 at'] V (Fnd pb gT cT nb fb T at' V) := by
  obtain ⟨P, hP⟩ : ∃ P, P = Fnd pb gT cT nb fb T at' V := ⟨_, rfl⟩
  rw [← hP]
  have HC := find_chain V pb gT cT nb fb nx T h at' hn ha hT P hP
  have hal : at' ≤ 100000000 := by omega
  have hin := ups_in T at' (kat T at')
  have hfd : fnd T at' = match (ups T at').1 (kat T at') with
    | some q => if at' - q ≤ 65535 then some q else none
    | none => match (ups T at').2 (kat T at') with
      | some q => if at' - q ≤ 65535 then some q else none
      | none => none := rfl
  clear h hP
  generalize (ups T at').1 (kat T at') = r1 at *
  generalize (ups T at').2 (kat T at') = r2 at *
  generalize fnd T at' = F at *
  generalize T[at'].toNat = a at *
  generalize T[at' + 1].toNat = b at *
  generalize T[at' + 2].toNat = c at *
  generalize T[at' + 3].toNat = d at *
  cases r1 with
  | some q =>
    have hq := (hin q (.inl rfl)).1
    simp only [Option.getD_some, Option.isSome_some] at HC hfd
    clear hin
    by_cases hfar : at' - q ≤ 65535
    · rw [if_pos hfar] at hfd
      have hz1 : (at' : Int) - (q : Int) ≤ 65535 := by omega
      have hd1 : decide ((at' : Int) - (q : Int) ≤ 65535) = true := decide_eq_true hz1
      go_enter Try.func15, Try.ntmps15
      go_wp2_with (first
        | (go_at_call 23; with_reducible refine (HC.out).mono ?_; rintro e w1 ⟨⟨r, rfl⟩, HC2⟩)
        | (go_at_call 24; with_reducible refine (HC2.out).mono ?_; rintro e w2 ⟨rfl, nb', fb', hpb, c1, c2, HL1, HL2, HE⟩; have hne : ¬ pb = w2.heap.size := (by omega)))
      have hl1 := fun n => HL1.out ((w2.alloc (.cells #[.int .u8 a, .int .u8 b, .int .u8 c, .int .u8 d] 67)).drewN n) (((Fr.refl _ _).alloc _).drewN n)
      go_quiet (fail)
      go_wp2_with fail
      exact HE.out _ q true (((Fr.refl _ _).alloc _).drewN _) (by rw [hfd]; rfl) (fun f hf => by rw [hfd] at hf; injection hf)
    · rw [if_neg hfar] at hfd
      have hz1 : ¬ (at' : Int) - (q : Int) ≤ 65535 := by omega
      have hd1 : decide ((at' : Int) - (q : Int) ≤ 65535) = false := decide_eq_false hz1
      go_enter Try.func15, Try.ntmps15
      go_wp2_with (first
        | (go_at_call 23; with_reducible refine (HC.out).mono ?_; rintro e w1 ⟨⟨r, rfl⟩, HC2⟩)
        | (go_at_call 24; with_reducible refine (HC2.out).mono ?_; rintro e w2 ⟨rfl, nb', fb', hpb, c1, c2, HL1, HL2, HE⟩; have hne : ¬ pb = w2.heap.size := (by omega)))
      have hl1 := fun n => HL1.out ((w2.alloc (.cells #[.int .u8 a, .int .u8 b, .int .u8 c, .int .u8 d] 67)).drewN n) (((Fr.refl _ _).alloc _).drewN n)
      go_quiet (fail)
      go_wp2_with fail
      exact HE.out _ q false (((Fr.refl _ _).alloc _).drewN _) (by rw [hfd]; rfl) (fun f hf => by rw [hfd] at hf; cases hf)
  | none =>
    cases r2 with
    | some q =>
      have hq := (hin q (.inr rfl)).1
      simp only [Option.getD_some, Option.isSome_some, Option.getD_none, Option.isSome_none] at HC hfd
      clear hin
      by_cases hfar : at' - q ≤ 65535
      · rw [if_pos hfar] at hfd
        have hz1 : (at' : Int) - (q : Int) ≤ 65535 := by omega
        have hd1 : decide ((at' : Int) - (q : Int) ≤ 65535) = true := decide_eq_true hz1
        go_enter Try.func15, Try.ntmps15
        go_wp2_with (first
          | (go_at_call 23; with_reducible refine (HC.out).mono ?_; rintro e w1 ⟨⟨r, rfl⟩, HC2⟩)
          | (go_at_call 24; with_reducible refine (HC2.out).mono ?_; rintro e w2 ⟨rfl, nb', fb', hpb, c1, c2, HL1, HL2, HE⟩; have hne : ¬ pb = w2.heap.size := (by omega)))
        have hl1 := fun n => HL1.out ((w2.alloc (.cells #[.int .u8 a, .int .u8 b, .int .u8 c, .int .u8 d] 67)).drewN n) (((Fr.refl _ _).alloc _).drewN n)
        go_quiet (fail)
        go_wp2_with fail
        have hl2 := fun n m => HL2.out (((w2.alloc (.cells #[.int .u8 a, .int .u8 b, .int .u8 c, .int .u8 d] 67)).drewN n).drewN m) ((((Fr.refl _ _).alloc _).drewN n).drewN m)
        have hl3 := fun n => HL2.out ((w2.alloc (.cells #[.int .u8 a, .int .u8 b, .int .u8 c, .int .u8 d] 67)).drewN n) (((Fr.refl _ _).alloc _).drewN n)
        go_quiet (fail)
        go_wp2_with fail
        exact HE.out _ q true (((Fr.refl _ _).alloc _).drewN _) (by rw [hfd]; rfl) (fun f hf => by rw [hfd] at hf; injection hf)
      · rw [if_neg hfar] at hfd
        have hz1 : ¬ (at' : Int) - (q : Int) ≤ 65535 := by omega
        have hd1 : decide ((at' : Int) - (q : Int) ≤ 65535) = false := decide_eq_false hz1
        go_enter Try.func15, Try.ntmps15
        go_wp2_with (first
          | (go_at_call 23; with_reducible refine (HC.out).mono ?_; rintro e w1 ⟨⟨r, rfl⟩, HC2⟩)
          | (go_at_call 24; with_reducible refine (HC2.out).mono ?_; rintro e w2 ⟨rfl, nb', fb', hpb, c1, c2, HL1, HL2, HE⟩; have hne : ¬ pb = w2.heap.size := (by omega)))
        have hl1 := fun n => HL1.out ((w2.alloc (.cells #[.int .u8 a, .int .u8 b, .int .u8 c, .int .u8 d] 67)).drewN n) (((Fr.refl _ _).alloc _).drewN n)
        go_quiet (fail)
        go_wp2_with fail
        have hl2 := fun n m => HL2.out (((w2.alloc (.cells #[.int .u8 a, .int .u8 b, .int .u8 c, .int .u8 d] 67)).drewN n).drewN m) ((((Fr.refl _ _).alloc _).drewN n).drewN m)
        have hl3 := fun n => HL2.out ((w2.alloc (.cells #[.int .u8 a, .int .u8 b, .int .u8 c, .int .u8 d] 67)).drewN n) (((Fr.refl _ _).alloc _).drewN n)
        go_quiet (fail)
        go_wp2_with fail
        exact HE.out _ q false (((Fr.refl _ _).alloc _).drewN _) (by rw [hfd]; rfl) (fun f hf => by rw [hfd] at hf; cases hf)
    | none =>
      simp only [Option.getD_none, Option.isSome_none] at HC hfd
      clear hin
      go_enter Try.func15, Try.ntmps15
      go_wp2_with (first
        | (go_at_call 23; with_reducible refine (HC.out).mono ?_; rintro e w1 ⟨⟨r, rfl⟩, HC2⟩)
        | (go_at_call 24; with_reducible refine (HC2.out).mono ?_; rintro e w2 ⟨rfl, nb', fb', hpb, c1, c2, HL1, HL2, HE⟩; have hne : ¬ pb = w2.heap.size := (by omega)))
      have hl1 := fun n => HL1.out ((w2.alloc (.cells #[.int .u8 a, .int .u8 b, .int .u8 c, .int .u8 d] 67)).drewN n) (((Fr.refl _ _).alloc _).drewN n)
      go_quiet (fail)
      go_wp2_with fail
      have hl2 := fun n m => HL2.out (((w2.alloc (.cells #[.int .u8 a, .int .u8 b, .int .u8 c, .int .u8 d] 67)).drewN n).drewN m) ((((Fr.refl _ _).alloc _).drewN n).drewN m)
      have hl3 := fun n => HL2.out ((w2.alloc (.cells #[.int .u8 a, .int .u8 b, .int .u8 c, .int .u8 d] 67)).drewN n) (((Fr.refl _ _).alloc _).drewN n)
      go_quiet (fail)
      go_wp2_with fail
      exact HE.out _ 0 false (((Fr.refl _ _).alloc _).drewN _) (by rw [hfd]; rfl) (fun f hf => by rw [hfd] at hf; cases hf)
end Go.Proofs.Ytpnacppmdlnjlab
