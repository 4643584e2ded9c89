import Derived.Test.YtlfcgldbgejfbaaPiA
namespace Go.Proofs.Ytlfcgldbgejfbaa
open Go.RowKit
set_option linter.unusedVariables false
theorem AllS.slice {B d1 d2 : Nat} {v : Value} {l : List By} {w : World} (h : AllS B d1 d2 v l w) : ∃ a c, v = .slice a l.length c := by
  rcases h with ⟨h1, h2⟩ | ⟨g, _, _, _, xs, h4, _⟩
  · subst h2; exact ⟨_, _, h1⟩
  · exact ⟨_, _, h4⟩
theorem PInv.after {w : World} {s1 : BitVec 32} {s2 : BitVec 64} {d1 d2 : Nat} {l : List By} {v : Value} {wr V : World} (h : PInv w s1 s2 d1 d2 l v wr) (hV : Nw wr V) : PInv w s1 s2 d1 d2 l v V :=
  ⟨h.t1.nw hV, h.t2.nw hV, h.all.kept hV (fun _ h => h.elim), h.nw.trans hV⟩
/-- What is asked between and at the end. -/
structure PAsk (s1 : BitVec 32) (s2 : BitVec 64) (d1 d2 : Nat) (l : List By) (v : Value) (W : World) : Prop where
  a : ∀ V, Nw W V → Calls Try.prog 22 #[.pointer (some ⟨d1, 0, none⟩)] V fun e w' => e = .returned (.int .u32 (s32 s1 l).toNat) ∧ Nw W w'
  b : ∀ z, z = (s1.toNat : Int) → ∀ V, Nw W V → Calls Try.prog 9 #[.int .u32 z, v] V fun e w' => e = .returned (.int .u32 (s32 s1 l).toNat) ∧ Nw W w'
  c : ∀ V, Nw W V → Calls Try.prog 23 #[.pointer (some ⟨d2, 0, none⟩)] V fun e w' => e = .returned (.int .u64 (s64 s2 l).toNat) ∧ Nw W w'
  d : ∀ V, Nw W V → Calls Try.prog 10 #[.int .u64 s2.toNat, v] V fun e w' => e = .returned (.int .u64 (s64 s2 l).toNat) ∧ Nw W w'
  e : ∀ V, Nw W V → Calls Try.prog 24 #[.pointer (some ⟨d1, 0, none⟩)] V fun e w' => e = .returned (.int .u64 l.length) ∧ Nw W w'
  f : ∀ V, Nw W V → Calls Try.prog 25 #[.pointer (some ⟨d2, 0, none⟩)] V fun e w' => e = .returned (.int .u64 l.length) ∧ Nw W w'
theorem PInv.ask {w : World} {s1 : BitVec 32} {s2 : BitVec 64} {d1 d2 : Nat} {l : List By} {v : Value} {W : World} (h : PInv w s1 s2 d1 d2 l v W) (hl : l.length ≤ 140737488355328) : PAsk s1 s2 d1 d2 l v W := by
  have ho := h.all.old
  refine ⟨fun V hV => cbase hV (sum32_any d1 s1 l V (h.t1.nw hV) (by omega)), fun z hz V hV => sumf32_at W v l ho s1 z hz V hV, fun V hV => cbase hV (sum64_any d2 s2 l V (h.t2.nw hV) (by omega)), fun V hV => sumf64_at W v l ho s2 _ rfl V hV, ?_, ?_⟩
  · intro V hV
    obtain ⟨rest, h1, h2, h3⟩ := h.t1.nw hV
    rw [Nat.mod_eq_of_lt (by omega)] at h2
    exact cbase hV (len32_any d1 _ _ _ V h2)
  · intro V hV
    obtain ⟨rest, h1, h2, h3⟩ := h.t2.nw hV
    rw [Nat.mod_eq_of_lt (by omega)] at h2
    exact cbase hV (len64_any d2 _ _ _ V h2)
namespace xxhPieces
theorem low_of (o : BitVec 64) : ((o.setWidth 32).toNat : Int) = (o.toNat : Int) % 4294967296 := by simp
set_option maxHeartbeats 40000000 in
set_option maxRecDepth 100000 in
theorem walk (t : BitVec 64) (a0 b0 : Option Addr) (g o n cap g2 o2 m bc : Nat) (aP : Nat → Option Addr) (cP : Nat → Nat) (P : Nat → List By) (Q : Nat → Bool) (w : World)
    (ha : 0 < n → a0 = some ⟨g, o, none⟩) (hb : 0 < m → b0 = some ⟨g2, o2, none⟩)
    (hc : ∀ i, i < n → ∀ V, Nw w V → V.cell? ⟨g, o + i, none⟩ = some (.slice (aP i) (P i).length (cP i)))
    (hP : ∀ i, i < n → Old w (.slice (aP i) (P i).length (cP i)) (P i))
    (hQ : ∀ i, i < m → ∀ V, Nw w V → V.cell? ⟨g2, o2 + i, none⟩ = some (.bool (Q i)))
    (hn : n ≤ 1048576) (hm : m ≤ 1048576) (hcat : (cat P n).length ≤ 1048576) :
    Calls Try.prog 5 #[.int .u64 t.toNat, .slice a0 n cap, .slice b0 m bc] w fun e w' => e = .returned (.bool true) ∧ Nw w w' := by
  have HL : Hid (∀ V, Nw w V → Calls Try.prog 19 #[] V fun e w' => e = .returned (.bool true) ∧ Nw w w') := fun V hV => cbase hV (lives_any V)
  have HN1 : Hid (∀ V, Nw w V → Calls Try.prog 13 #[.int .u32 ((t.toNat : Int) % 4294967296)] V fun e w' => e = .returned (.pointer (some ⟨V.heap.size, 0, none⟩)) ∧ Nw V w' ∧ Took32 V.heap.size (t.setWidth 32) [] w' ∧ w'.heap.size = V.heap.size + 1) := fun V hV => (new32_any (t.setWidth 32) _ (low_of t).symm V).mono (fun e w' ⟨h1, h2, h3, h4⟩ => ⟨h1, h2, Took32.new h3, h4⟩)
  have HN2 : Hid (∀ V, Calls Try.prog 14 #[.int .u64 t.toNat] V fun e w' => e = .returned (.pointer (some ⟨V.heap.size, 0, none⟩)) ∧ Nw V w' ∧ Took64 V.heap.size t [] w' ∧ w'.heap.size = V.heap.size + 1) := fun V => (new64_any t _ rfl V).mono (fun e w' ⟨h1, h2, h3, h4⟩ => ⟨h1, h2, Took64.new h3, h4⟩)
  have HC : Hid _ := hc
  have HP : Hid _ := hP
  have HQ : Hid _ := hQ
  have HA : Hid _ := ha
  have HB : Hid _ := hb
  have HCAT : Hid _ := hcat
  have hlow : Hid (((t.toNat : Int) % 4294967296) = ((t.setWidth 32).toNat : Int)) := (low_of t).symm
  have hO := t.isLt
  clear hc hP hQ ha hb hcat
  go_enter Try.func5, Try.ntmps5
  go_wp2_with (first
      | (go_at_call 19; with_reducible refine (HL.out _ ?_).mono ?_; (first | assumption | exact Fr.refl _ _); rintro e w1 ⟨rfl, hN1⟩)
      | (go_at_call 13; with_reducible refine (HN1.out _ ?_).mono ?_; (first | assumption | exact Fr.refl _ _); rintro e w2 ⟨rfl, hN2, hT1, hs2⟩)
      | (go_at_call 14; with_reducible refine (HN2.out _).mono ?_; rintro e w3 ⟨rfl, hN3, hT2, hs3⟩))
  have hd1 : w.heap.size ≤ w1.heap.size := hN1.size
  obtain ⟨D1, hD1⟩ : ∃ D, D = w1.heap.size := ⟨_, rfl⟩
  obtain ⟨D2, hD2⟩ : ∃ D, D = w1.heap.size + 1 := ⟨_, rfl⟩
  have HI0 : Hid (PInv w (t.setWidth 32) t D1 D2 (cat P 0) (.slice none 0 0) w3) := by
    have h2 : Nw w w3 := (hN1.trans hN2).trans hN3
    rw [hs2] at hT2
    rw [hD1, hD2]
    exact ⟨hT1.nw hN3, hT2, .inl ⟨rfl, rfl⟩, h2⟩
  have HD : Hid (D1 ≠ D2 ∧ w.heap.size ≤ D1 ∧ w.heap.size ≤ D2) := ⟨by omega, by omega, by omega⟩
  rw [← hD2, ← hD1]
  clear hT1 hT2 hs2 hs3 hN1 hN2 hN3 hD1 hD2 hd1
  go_loopg [9, 10] n (fun kx v i wr => ∃ (k : Nat) (z : Int) (y : Value), k ≤ n ∧ n - k ≤ kx ∧ i = .int .i64 z ∧ y = v ∧ z = k ∧ Hid (PInv w (t.setWidth 32) t D1 D2 (cat P k) y wr))
  case atStart => exact ⟨0, 0, _, Nat.zero_le _, Nat.le_refl _, rfl, rfl, rfl, HI0⟩
  case round =>
    obtain ⟨k, z, y, hk, hkx, rfl, hy, hz, HI⟩ := hrel
    subst hy
    clear HI0
    by_cases hlt : k < n
    · obtain rfl := HA.out (by omega)
      have hzn : z < (n : Int) := by omega
      have hz0 : 0 ≤ z := by omega
      have hzk : z.toNat = k := by omega
      have hzn' : k < n := hlt
      obtain ⟨hd0, hd1, hd2⟩ := HD.out
      have hlen : (cat P k).length + (P k).length ≤ 1048576 := by
        have := cat_le P (k + 1) n (by omega)
        simp only [cat, List.length_append] at this
        have := HCAT.out
        omega
      obtain ⟨v1, W1, hap1, H20⟩ := piece_step w (t.setWidth 32) t D1 D2 hd0 hd1 hd2 (cat P k) (P k) y (.slice (aP k) (P k).length (cP k)) wr HI.out (HP.out k hlt) (by omega)
      have KC : Hid (∀ V, Nw w V → V.cell? ⟨g, o + k, none⟩ = some (.slice (aP k) (P k).length (cP k))) := fun V hV => HC.out k hlt V hV
      have hNr := HI.out.nw
      have q1 := KC.out _ (hNr.alloc (.cells #[] 5))
      have KF : Hid (∀ v5 W5, Hid (PInv w (t.setWidth 32) t D1 D2 (cat P k ++ P k) v5 W5) → Hid (∀ V, Nw W5 V → PInv w (t.setWidth 32) t D1 D2 (cat P (k + 1)) v5 V) ∧ Hid (PAsk (t.setWidth 32) t D1 D2 (cat P (k + 1)) v5 W5)) := fun v5 W5 h5 => ⟨fun V hV => h5.out.after hV, PInv.ask h5.out (by show (cat P k ++ P k).length ≤ _; rw [List.length_append]; omega)⟩
      have KQ : Hid (k < m → ∀ V, Nw w V → V.cell? ⟨g2, o2 + k, none⟩ = some (.bool (Q k))) := fun h V hV => HQ.out k h V hV
      clear HC HP HQ HA HI HD HCAT hlen hd0 hd1 hd2
      generalize (P k).length = pn at *
      generalize aP k = pa at *
      generalize cP k = pc at *
      have hw1 : IntKind.i64.wrap (z + 1) = z + 1 := by rw [IntKind.wrap_i64]; omega
      by_cases hmk : k < m
      · obtain rfl := HB.out (by omega)
        have hzm : z < (m : Int) := by omega
        generalize hqk : Q k = qk at *
        cases qk
        · go_wp2_with (first
          | (at_builtin; refine Lib.wpList_append_run _ rfl _ _ 24 24 rfl (.slice (some ⟨wr.heap.size, 0, none⟩) 0 0) (.slice pa pn pc) (by simp [Act.eval]) (by simp [Act.eval]) _ _ (hap1.out _) ?_)
          | (go_at_call 20; with_reducible refine (H20.out).mono ?_; rintro e w2 ⟨⟨r2, rfl⟩, hN2, v3, W3, hap3, H21⟩; have q2 := KC.out _ (hN2.alloc (.cells #[] 5)))
          | (at_builtin; refine Lib.wpList_append_run _ rfl _ _ 24 24 rfl (.slice (some ⟨w2.heap.size, 0, none⟩) 0 0) (.slice pa pn pc) (by simp [Act.eval]) (by simp [Act.eval]) _ _ (hap3.out _) ?_)
          | (go_at_call 21; with_reducible refine (H21.out).mono ?_; rintro e w4 ⟨⟨r4, rfl⟩, hN4, v5, W5, hap5, HP5⟩; have q4 := KC.out _ hN4)
          | (at_builtin; refine Lib.wpList_append_run _ rfl _ _ 24 24 rfl y (.slice pa pn pc) (by simp [Act.eval]) (by simp [Act.eval]) _ _ (hap5.out _) ?_; obtain ⟨HF5, KA⟩ := KF.out v5 W5 HP5; have qq := KQ.out hmk W5 HP5.out.nw))

          all_goals go_roundg (n - (k + 1))
          all_goals (first | omega | exact ⟨k + 1, _, _, by omega, by omega, rfl, rfl, by omega, HF5.out _ (by first | assumption | exact Fr.refl _ _ | exact (Fr.refl _ _).drew)⟩)

        · generalize s32 (t.setWidth 32) (cat P (k + 1)) = S1 at *
          generalize s64 t (cat P (k + 1)) = S2 at *
          go_wp2_with (first
          | (at_builtin; refine Lib.wpList_append_run _ rfl _ _ 24 24 rfl (.slice (some ⟨wr.heap.size, 0, none⟩) 0 0) (.slice pa pn pc) (by simp [Act.eval]) (by simp [Act.eval]) _ _ (hap1.out _) ?_)
          | (go_at_call 20; with_reducible refine (H20.out).mono ?_; rintro e w2 ⟨⟨r2, rfl⟩, hN2, v3, W3, hap3, H21⟩; have q2 := KC.out _ (hN2.alloc (.cells #[] 5)))
          | (at_builtin; refine Lib.wpList_append_run _ rfl _ _ 24 24 rfl (.slice (some ⟨w2.heap.size, 0, none⟩) 0 0) (.slice pa pn pc) (by simp [Act.eval]) (by simp [Act.eval]) _ _ (hap3.out _) ?_)
          | (go_at_call 21; with_reducible refine (H21.out).mono ?_; rintro e w4 ⟨⟨r4, rfl⟩, hN4, v5, W5, hap5, HP5⟩; have q4 := KC.out _ hN4)
          | (at_builtin; refine Lib.wpList_append_run _ rfl _ _ 24 24 rfl y (.slice pa pn pc) (by simp [Act.eval]) (by simp [Act.eval]) _ _ (hap5.out _) ?_; obtain ⟨HF5, KA⟩ := KF.out v5 W5 HP5; have qq := KQ.out hmk W5 HP5.out.nw)
          | (go_at_call 22; with_reducible refine ((KA.out).a _ ?_).mono ?_; (first | assumption | exact Fr.refl _ _ | exact (Fr.refl _ _).drew); rintro e u1 ⟨rfl, hu1⟩)
          | (go_at_call 9; with_reducible refine ((KA.out).b _ hlow.out _ ?_).mono ?_; (first | assumption | exact Fr.refl _ _ | exact (Fr.refl _ _).drew); rintro e u2 ⟨rfl, hu2⟩)
          | (go_at_call 23; with_reducible refine ((KA.out).c _ ?_).mono ?_; (first | assumption | exact Fr.refl _ _ | exact (Fr.refl _ _).drew); rintro e u3 ⟨rfl, hu3⟩)
          | (go_at_call 10; with_reducible refine ((KA.out).d _ ?_).mono ?_; (first | assumption | exact Fr.refl _ _ | exact (Fr.refl _ _).drew); rintro e u4 ⟨rfl, hu4⟩))

          all_goals go_roundg (n - (k + 1))
          all_goals (first | omega | exact ⟨k + 1, _, _, by omega, by omega, rfl, rfl, by omega, HF5.out _ (by first | assumption | exact Fr.refl _ _ | exact (Fr.refl _ _).drew)⟩)

      · have hzm : ¬ z < (m : Int) := by omega
        go_wp2_with (first
          | (at_builtin; refine Lib.wpList_append_run _ rfl _ _ 24 24 rfl (.slice (some ⟨wr.heap.size, 0, none⟩) 0 0) (.slice pa pn pc) (by simp [Act.eval]) (by simp [Act.eval]) _ _ (hap1.out _) ?_)
          | (go_at_call 20; with_reducible refine (H20.out).mono ?_; rintro e w2 ⟨⟨r2, rfl⟩, hN2, v3, W3, hap3, H21⟩; have q2 := KC.out _ (hN2.alloc (.cells #[] 5)))
          | (at_builtin; refine Lib.wpList_append_run _ rfl _ _ 24 24 rfl (.slice (some ⟨w2.heap.size, 0, none⟩) 0 0) (.slice pa pn pc) (by simp [Act.eval]) (by simp [Act.eval]) _ _ (hap3.out _) ?_)
          | (go_at_call 21; with_reducible refine (H21.out).mono ?_; rintro e w4 ⟨⟨r4, rfl⟩, hN4, v5, W5, hap5, HP5⟩; have q4 := KC.out _ hN4)
          | (at_builtin; refine Lib.wpList_append_run _ rfl _ _ 24 24 rfl y (.slice pa pn pc) (by simp [Act.eval]) (by simp [Act.eval]) _ _ (hap5.out _) ?_; obtain ⟨HF5, KA⟩ := KF.out v5 W5 HP5))

        all_goals go_roundg (n - (k + 1))
        all_goals (first | omega | exact ⟨k + 1, _, _, by omega, by omega, rfl, rfl, by omega, HF5.out _ (by first | assumption | exact Fr.refl _ _ | exact (Fr.refl _ _).drew)⟩)

    · obtain rfl : k = n := by omega
      have hzn : ¬ z < (k : Int) := by omega
      have KA : Hid (PAsk (t.setWidth 32) t D1 D2 (cat P k) y wr) := PInv.ask HI.out (by have := HCAT.out; omega)
      have hNr := HI.out.nw
      obtain ⟨ya, yc, hyy⟩ := HI.out.all.slice
      subst hyy
      have hl := HCAT.out
      clear HC HP HQ HA HI HD HCAT
      have hwl : IntKind.u64.wrap ((cat P k).length : Int) = ((cat P k).length : Int) := by rw [IntKind.wrap_u64]; omega
      have hwl2 : ((cat P k).length : Int) % 18446744073709551616 = ((cat P k).length : Int) := by omega
      generalize s32 (t.setWidth 32) (cat P k) = S1 at *
      go_wp2_with (first
          | (go_at_call 22; with_reducible refine ((KA.out).a _ ?_).mono ?_; (first | assumption | exact Fr.refl _ _ | exact (Fr.refl _ _).drew); rintro e u1 ⟨rfl, hu1⟩)
          | (go_at_call 9; with_reducible refine ((KA.out).b _ hlow.out _ ?_).mono ?_; (first | assumption | exact Fr.refl _ _ | exact (Fr.refl _ _).drew); rintro e u2 ⟨rfl, hu2⟩)
          | (go_at_call 23; with_reducible refine ((KA.out).c _ ?_).mono ?_; (first | assumption | exact Fr.refl _ _ | exact (Fr.refl _ _).drew); rintro e u3 ⟨rfl, hu3⟩)
          | (go_at_call 10; with_reducible refine ((KA.out).d _ ?_).mono ?_; (first | assumption | exact Fr.refl _ _ | exact (Fr.refl _ _).drew); rintro e u4 ⟨rfl, hu4⟩)
          | (go_at_call 24; with_reducible refine ((KA.out).e _ ?_).mono ?_; (first | assumption | exact Fr.refl _ _ | exact (Fr.refl _ _).drew); rintro e u5 ⟨rfl, hu5⟩)
          | (go_at_call 25; with_reducible refine ((KA.out).f _ ?_).mono ?_; (first | assumption | exact Fr.refl _ _ | exact (Fr.refl _ _).drew); rintro e u6 ⟨rfl, hu6⟩))
      all_goals go_ret
      all_goals exact ⟨by simp, hNr.trans (by assumption)⟩
end xxhPieces
end Go.Proofs.Ytlfcgldbgejfbaa
