import Derived.Test.YtpnacppmdlnjlaaMaG
import Derived.Test.YtpnacppmdlnjlaaLzQ
namespace Go.Proofs.Ytpnacppmdlnjlaa
open Go.RowKit
set_option linter.unusedVariables false
variable {σ : Type}
/-- One sequence played. -/
def plS (T : Tk σ) (s : Si) (st : σ) : Except Nat σ :=
  if T.room st s.p.length = false then .error 32
  else if s.b = 0 then .ok (T.plain st s.p)
  else if T.reaches (T.plain st s.p) s.b.toNat = false then .error 30
  else if T.room (T.plain st s.p) s.n.toNat = false then .error 32
  else .ok (T.mat (T.plain st s.p) s.b.toNat s.n.toNat)
def plA (T : Tk σ) : List Si → σ → Except Nat σ
  | [], st => .ok st
  | s :: r, st => match plS T s st with
    | .error y => .error y
    | .ok st' => plA T r st'
set_option maxHeartbeats 4000000 in
theorem proom_wide {D pb : Nat} {va : Value} {ahead : List By} {most : Nat} {s : List By} {K : Nat → Prop} {w : World} (n : Nat) (h : PI D pb va ahead most s K w) :
    Calls Try.prog 47 #[.pointer (some ⟨pb, 0, none⟩), .int .i64 n] w fun e w' => e = .returned (.bool ((pl ahead most).room s n)) ∧ Nw w w' := by
  obtain ⟨vo, h1, h2⟩ := h.out
  obtain ⟨a, c, rfl, hc, hc2⟩ := h2.sl.form
  have hm := h.cm
  have hz : Hid ((pl ahead most).room s n = decide ((n : Int) ≤ (most : Int) - (s.length : Int))) := by
    show decide _ = decide _
    rw [decide_eq_decide]; omega
  have hle := h.le
  have hlm := h.lm
  clear h h2
  generalize (pl ahead most).room s n = R at *
  generalize s.length = len at *
  go_enter Try.func47, Try.ntmps47
  go_wp2_with fail
  go_quiet (fail)
  go_wp2
  try go_ret
  exact ⟨by rw [hz.out]; rfl, (Fr.refl _ _).drewN _⟩
def Plad (D pb : Nat) (va : Value) (ahead : List By) (most : Nat) (K : Nat → Prop) (w : World) (r : Except Nat (List By)) (e : Ending) (w' : World) : Prop :=
  Fr (fun k => ¬ K k) w w' ∧ match r with
  | .error y => e = .returned (.int .i64 y) ∧ 0 < y
  | .ok st => e = .returned (.int .i64 0) ∧ PI D pb va ahead most st K w'
set_option maxHeartbeats 8000000 in
set_option maxRecDepth 100000 in
theorem pplay_any {D pb : Nat} {va : Value} {ahead : List By} {most : Nat} {st : List By} {K : Nat → Prop} {w : World} (h : PI D pb va ahead most st K w) (hD : ∀ k, k < D → K k) (hK : ∀ k, K k → k < w.heap.size) (vp : Value) (s : Si) (hu : Sl (fun k => D ≤ k) vp s.p w) (hok : okI s) :
    Calls Try.prog 39 #[.pointer (some ⟨pb, 0, none⟩), .agg #[vp, .int .i64 s.b, .int .i64 s.n]] w (Plad D pb va ahead most K w (plS (pl ahead most) s st)) := by
  obtain ⟨P, hP⟩ : ∃ P, P = Plad D pb va ahead most K w (plS (pl ahead most) s st) := ⟨_, rfl⟩
  rw [← hP]
  have HP : Hid (P = Plad D pb va ahead most K w (plS (pl ahead most) s st)) := hP
  clear hP
  obtain ⟨W0, hW0⟩ : ∃ W0, w.alloc (.cells #[vp, .int .i64 s.b, .int .i64 s.n] 36) = W0 := ⟨_, rfl⟩
  have hN0 : Nw w W0 := by rw [← hW0]; exact (Fr.refl _ _).alloc _
  have hs0 : W0.heap.size = w.heap.size + 1 := by rw [← hW0]; simp
  obtain ⟨q, hq⟩ : ∃ q, w.heap.size = q := ⟨_, rfl⟩
  have hB0 : Bq q vp s.b s.n W0 := by rw [← hW0, ← hq]; exact ⟨new_cell _ _ _ _ _ rfl, new_cell _ _ _ _ _ rfl, new_cell _ _ _ _ _ rfl⟩
  have h0 : PI D pb va ahead most st (fun k => K k ∨ k = q) W0 := h.grow hN0 (fun k hk => by rcases hk with hk | hk; exact .inl hk; exact .inr (by omega))
  have hK1 : ∀ k, (K k ∨ k = q) → k < W0.heap.size := fun k hk => by rcases hk with hk | hk; have := hK k hk; omega; omega
  have hD1 : ∀ k, k < D → (K k ∨ k = q) := fun k hk => .inl (hD k hk)
  have hqK : ¬ ¬ (K q ∨ q = q) := fun h => h (.inr rfl)
  have hFw : ∀ {V V' : World}, Fr (fun k => ¬ (K k ∨ k = q)) V V' → Fr (fun k => ¬ K k) V V' := fun h => h.mono (fun k hk => .inl (fun h => hk (.inl h)))
  have hback : ∀ {V : World} {s : List By}, PI D pb va ahead most s (fun k => K k ∨ k = q) V → PI D pb va ahead most s K V := fun h => h.grow (Fr.refl _ _) (fun k hk => .inl (.inl hk))
  have hu0 : Sl (fun k => D ≤ k) vp s.p W0 := hu.nw hN0
  have hR1 := proom_wide s.p.length h0
  by_cases hr1 : (pl ahead most).room st s.p.length = false
  · have HC : Hid (Calls Try.prog 47 #[.pointer (some ⟨pb, 0, none⟩), .int .i64 s.p.length] W0 fun e w1 => e = .returned (.bool false) ∧ Hid (P (.returned (.int .i64 32)) w1)) := by
      refine hR1.mono ?_
      rintro e w1 ⟨rfl, hN1⟩
      refine ⟨by rw [hr1], ?_⟩
      show P _ _
      rw [HP.out, plS, if_pos hr1]
      exact ⟨(hN0.trans hN1).any, rfl, by decide⟩
    obtain ⟨ap, cp, rfl, _, _⟩ := hu.form
    obtain ⟨x0, x1, x2⟩ := hB0
    clear h h0 hR1 HP hu hu0 hFw hback hK1 hD1 hqK hK hN0 hs0 hD hr1 hok
    generalize s.p.length = pn at *
    go_enter Try.func39, Try.ntmps39
    go_wp2_with (first | (go_at_call 47; with_reducible refine (HC.out).mono ?_; rintro e w1 ⟨rfl, HE⟩))
    exact HE.out
  have hr1' : (pl ahead most).room st s.p.length = true := by simpa using hr1
  have hPl : ∀ w1, Nw W0 w1 → Calls Try.prog 48 #[.pointer (some ⟨pb, 0, none⟩), vp] w1 fun e w2 => (∃ r, e = .returned r) ∧ PI D pb va ahead most ((pl ahead most).plain st s.p) (fun k => K k ∨ k = q) w2 ∧ Bq q vp s.b s.n w2 ∧ Fr (fun k => ¬ K k) w w2 ∧ W0.heap.size ≤ w2.heap.size := by
    intro w1 hN1
    refine (pplain_any (h0.grow hN1 (fun k hk => .inl hk)) hD1 (fun k hk => Nat.lt_of_lt_of_le (hK1 k hk) hN1.size) (hu0.nw hN1) hr1').mono ?_
    rintro e w2 ⟨hr, h2, hF2⟩
    exact ⟨hr, h2, (hB0.kept hN1 (fun h => h)).kept hF2 hqK, ((hN0.trans hN1).any).trans (hFw hF2), Nat.le_trans hN1.size hF2.size⟩
  by_cases hb0 : s.b = 0
  · have HC : Hid (Calls Try.prog 47 #[.pointer (some ⟨pb, 0, none⟩), .int .i64 s.p.length] W0 fun e w1 => e = .returned (.bool true) ∧ Bq q vp s.b s.n w1 ∧ Hid (Calls Try.prog 48 #[.pointer (some ⟨pb, 0, none⟩), vp] w1 fun e w2 => (∃ r, e = .returned r) ∧ Bq q vp s.b s.n w2 ∧ Hid (P (.returned (.int .i64 0)) w2))) := by
      refine hR1.mono ?_
      rintro e w1 ⟨rfl, hN1⟩
      refine ⟨by rw [hr1'], hB0.kept hN1 (fun h => h), ?_⟩
      show Calls _ _ _ _ _
      refine (hPl w1 hN1).mono ?_
      rintro e w2 ⟨hr, h2, hB2, hF2, _⟩
      refine ⟨hr, hB2, ?_⟩
      show P _ _
      rw [HP.out, plS, if_neg hr1, if_pos hb0]
      exact ⟨hF2, rfl, hback h2⟩
    obtain ⟨ap, cp, rfl, _, _⟩ := hu.form
    obtain ⟨x0, x1, x2⟩ := hB0
    clear h h0 hR1 HP hu hu0 hFw hback hK1 hD1 hqK hK hN0 hs0 hD hr1 hok hPl hr1'
    generalize s.p.length = pn at *
    generalize s.b = zb at *
    generalize s.n = zn at *
    subst hb0
    go_enter Try.func39, Try.ntmps39
    go_wp2_with (first
      | (go_at_call 47; with_reducible refine (HC.out).mono ?_; rintro e w1 ⟨rfl, ⟨y0, y1, y2⟩, HC2⟩)
      | (go_at_call 48; with_reducible refine (HC2.out).mono ?_; rintro e w2 ⟨⟨r2, rfl⟩, ⟨z0, z1, z2⟩, HE⟩))
    exact HE.out
  have hcan : canI s := by
    rcases hok with ⟨h1, _⟩ | h1
    · exact absurd h1 hb0
    · exact h1
  obtain ⟨hc1, hc2, hc3⟩ := hcan
  have hzb : ((s.b.toNat : Nat) : Int) = s.b := by omega
  have hzn : ((s.n.toNat : Nat) : Int) = s.n := by omega
  have hRe : ∀ w2, PI D pb va ahead most ((pl ahead most).plain st s.p) (fun k => K k ∨ k = q) w2 → Calls Try.prog 49 #[.pointer (some ⟨pb, 0, none⟩), .int .i64 s.b] w2 fun e w3 => e = .returned (.bool ((pl ahead most).reaches ((pl ahead most).plain st s.p) s.b.toNat)) ∧ Nw w2 w3 := fun w2 h2 => by
    have := preaches_any s.b.toNat h2 (by omega)
    rw [hzb] at this; exact this
  by_cases hr2 : (pl ahead most).reaches ((pl ahead most).plain st s.p) s.b.toNat = false
  · have HC : Hid (Calls Try.prog 47 #[.pointer (some ⟨pb, 0, none⟩), .int .i64 s.p.length] W0 fun e w1 => e = .returned (.bool true) ∧ Bq q vp s.b s.n w1 ∧ Hid (Calls Try.prog 48 #[.pointer (some ⟨pb, 0, none⟩), vp] w1 fun e w2 => (∃ r, e = .returned r) ∧ Bq q vp s.b s.n w2 ∧ Hid (Calls Try.prog 49 #[.pointer (some ⟨pb, 0, none⟩), .int .i64 s.b] w2 fun e w3 => e = .returned (.bool false) ∧ Hid (P (.returned (.int .i64 30)) w3)))) := by
      refine hR1.mono ?_
      rintro e w1 ⟨rfl, hN1⟩
      refine ⟨by rw [hr1'], hB0.kept hN1 (fun h => h), ?_⟩
      show Calls _ _ _ _ _
      refine (hPl w1 hN1).mono ?_
      rintro e w2 ⟨hr, h2, hB2, hF2, _⟩
      refine ⟨hr, hB2, ?_⟩
      show Calls _ _ _ _ _
      refine (hRe w2 h2).mono ?_
      rintro e w3 ⟨rfl, hN3⟩
      refine ⟨by rw [hr2], ?_⟩
      show P _ _
      rw [HP.out, plS, if_neg hr1, if_neg hb0, if_pos hr2]
      exact ⟨hF2.trans hN3.any, rfl, by decide⟩
    obtain ⟨ap, cp, rfl, _, _⟩ := hu.form
    obtain ⟨x0, x1, x2⟩ := hB0
    clear h h0 hR1 HP hu hu0 hFw hback hK1 hD1 hqK hK hN0 hs0 hD hr1 hok hPl hr1' hRe hzb hzn hr2
    generalize s.p.length = pn at *
    generalize s.b = zb at *
    generalize s.n = zn at *
    go_enter Try.func39, Try.ntmps39
    go_wp2_with (first
      | (go_at_call 47; with_reducible refine (HC.out).mono ?_; rintro e w1 ⟨rfl, ⟨y0, y1, y2⟩, HC2⟩)
      | (go_at_call 48; with_reducible refine (HC2.out).mono ?_; rintro e w2 ⟨⟨r2, rfl⟩, ⟨z0, z1, z2⟩, HC3⟩)
      | (go_at_call 49; with_reducible refine (HC3.out).mono ?_; rintro e w3 ⟨rfl, HE⟩))
    exact HE.out
  have hr2' : (pl ahead most).reaches ((pl ahead most).plain st s.p) s.b.toNat = true := by simpa using hr2
  have hRo : ∀ w2, PI D pb va ahead most ((pl ahead most).plain st s.p) (fun k => K k ∨ k = q) w2 → Calls Try.prog 47 #[.pointer (some ⟨pb, 0, none⟩), .int .i64 s.n] w2 fun e w3 => e = .returned (.bool ((pl ahead most).room ((pl ahead most).plain st s.p) s.n.toNat)) ∧ Nw w2 w3 := fun w2 h2 => by
    have := proom_wide s.n.toNat h2
    rw [hzn] at this; exact this
  by_cases hr3 : (pl ahead most).room ((pl ahead most).plain st s.p) s.n.toNat = false
  · have HC : Hid (Calls Try.prog 47 #[.pointer (some ⟨pb, 0, none⟩), .int .i64 s.p.length] W0 fun e w1 => e = .returned (.bool true) ∧ Bq q vp s.b s.n w1 ∧ Hid (Calls Try.prog 48 #[.pointer (some ⟨pb, 0, none⟩), vp] w1 fun e w2 => (∃ r, e = .returned r) ∧ Bq q vp s.b s.n w2 ∧ Hid (Calls Try.prog 49 #[.pointer (some ⟨pb, 0, none⟩), .int .i64 s.b] w2 fun e w3 => e = .returned (.bool true) ∧ Bq q vp s.b s.n w3 ∧ Hid (Calls Try.prog 47 #[.pointer (some ⟨pb, 0, none⟩), .int .i64 s.n] w3 fun e w4 => e = .returned (.bool false) ∧ Hid (P (.returned (.int .i64 32)) w4))))) := by
      refine hR1.mono ?_
      rintro e w1 ⟨rfl, hN1⟩
      refine ⟨by rw [hr1'], hB0.kept hN1 (fun h => h), ?_⟩
      show Calls _ _ _ _ _
      refine (hPl w1 hN1).mono ?_
      rintro e w2 ⟨hr, h2, hB2, hF2, _⟩
      refine ⟨hr, hB2, ?_⟩
      show Calls _ _ _ _ _
      refine (hRe w2 h2).mono ?_
      rintro e w3 ⟨rfl, hN3⟩
      refine ⟨by rw [hr2'], hB2.kept hN3 (fun h => h), ?_⟩
      show Calls _ _ _ _ _
      refine (hRo w3 (h2.grow hN3 (fun k hk => .inl hk))).mono ?_
      rintro e w4 ⟨rfl, hN4⟩
      refine ⟨by rw [hr3], ?_⟩
      show P _ _
      rw [HP.out, plS, if_neg hr1, if_neg hb0, if_neg hr2, if_pos hr3]
      exact ⟨hF2.trans (hN3.trans hN4).any, rfl, by decide⟩
    obtain ⟨ap, cp, rfl, _, _⟩ := hu.form
    obtain ⟨x0, x1, x2⟩ := hB0
    clear h h0 hR1 HP hu hu0 hFw hback hK1 hD1 hqK hK hN0 hs0 hD hr1 hok hPl hr1' hRe hzb hzn hr2 hr2' hRo hr3
    generalize s.p.length = pn at *
    generalize s.b = zb at *
    generalize s.n = zn at *
    go_enter Try.func39, Try.ntmps39
    go_wp2_with (first
      | (go_at_call 47; with_reducible refine (HC.out).mono ?_; rintro e w1 ⟨rfl, ⟨y0, y1, y2⟩, HC2⟩)
      | (go_at_call 48; with_reducible refine (HC2.out).mono ?_; rintro e w2 ⟨⟨r2, rfl⟩, ⟨z0, z1, z2⟩, HC3⟩)
      | (go_at_call 49; with_reducible refine (HC3.out).mono ?_; rintro e w3 ⟨rfl, ⟨t0, t1, t2⟩, HC4⟩)
      | (go_at_call 47; with_reducible refine (HC4.out).mono ?_; rintro e w4 ⟨rfl, HE⟩))
    exact HE.out
  have hr3' : (pl ahead most).room ((pl ahead most).plain st s.p) s.n.toNat = true := by simpa using hr3
  have HC : Hid (Calls Try.prog 47 #[.pointer (some ⟨pb, 0, none⟩), .int .i64 s.p.length] W0 fun e w1 => e = .returned (.bool true) ∧ Bq q vp s.b s.n w1 ∧ Hid (Calls Try.prog 48 #[.pointer (some ⟨pb, 0, none⟩), vp] w1 fun e w2 => (∃ r, e = .returned r) ∧ Bq q vp s.b s.n w2 ∧ Hid (Calls Try.prog 49 #[.pointer (some ⟨pb, 0, none⟩), .int .i64 s.b] w2 fun e w3 => e = .returned (.bool true) ∧ Bq q vp s.b s.n w3 ∧ Hid (Calls Try.prog 47 #[.pointer (some ⟨pb, 0, none⟩), .int .i64 s.n] w3 fun e w4 => e = .returned (.bool true) ∧ Bq q vp s.b s.n w4 ∧ Hid (Calls Try.prog 50 #[.pointer (some ⟨pb, 0, none⟩), .int .i64 s.b, .int .i64 s.n] w4 fun e w5 => (∃ r, e = .returned r) ∧ Hid (P (.returned (.int .i64 0)) w5)))))) := by
    refine hR1.mono ?_
    rintro e w1 ⟨rfl, hN1⟩
    refine ⟨by rw [hr1'], hB0.kept hN1 (fun h => h), ?_⟩
    show Calls _ _ _ _ _
    refine (hPl w1 hN1).mono ?_
    rintro e w2 ⟨hr, h2, hB2, hF2, hsz2⟩
    refine ⟨hr, hB2, ?_⟩
    show Calls _ _ _ _ _
    refine (hRe w2 h2).mono ?_
    rintro e w3 ⟨rfl, hN3⟩
    refine ⟨by rw [hr2'], hB2.kept hN3 (fun h => h), ?_⟩
    show Calls _ _ _ _ _
    refine (hRo w3 (h2.grow hN3 (fun k hk => .inl hk))).mono ?_
    rintro e w4 ⟨rfl, hN4⟩
    refine ⟨by rw [hr3'], (hB2.kept hN3 (fun h => h)).kept hN4 (fun h => h), ?_⟩
    show Calls _ _ _ _ _
    have hm := pmatch_any s.b.toNat s.n.toNat (h2.grow (hN3.trans hN4) (fun k hk => .inl hk)) hD1 (fun k hk => Nat.lt_of_lt_of_le (hK1 k hk) (Nat.le_trans hsz2 (hN3.trans hN4).size)) (by omega) (by omega) hr2' hr3'
    rw [hzb, hzn] at hm
    refine hm.mono ?_
    rintro e w5 ⟨hr, h5, hF5⟩
    refine ⟨hr, ?_⟩
    show P _ _
    rw [HP.out, plS, if_neg hr1, if_neg hb0, if_neg hr2, if_neg hr3]
    exact ⟨(hF2.trans (hN3.trans hN4).any).trans (hFw hF5), rfl, hback h5⟩
  obtain ⟨ap, cp, rfl, _, _⟩ := hu.form
  obtain ⟨x0, x1, x2⟩ := hB0
  clear h h0 hR1 HP hu hu0 hFw hback hK1 hD1 hqK hK hN0 hs0 hD hr1 hok hPl hr1' hRe hzb hzn hr2 hr2' hRo hr3 hr3'
  generalize s.p.length = pn at *
  generalize s.b = zb at *
  generalize s.n = zn at *
  go_enter Try.func39, Try.ntmps39
  go_wp2_with (first
    | (go_at_call 47; with_reducible refine (HC.out).mono ?_; rintro e w1 ⟨rfl, ⟨y0, y1, y2⟩, HC2⟩)
    | (go_at_call 48; with_reducible refine (HC2.out).mono ?_; rintro e w2 ⟨⟨r2, rfl⟩, ⟨z0, z1, z2⟩, HC3⟩)
    | (go_at_call 49; with_reducible refine (HC3.out).mono ?_; rintro e w3 ⟨rfl, ⟨t0, t1, t2⟩, HC4⟩)
    | (go_at_call 47; with_reducible refine (HC4.out).mono ?_; rintro e w4 ⟨rfl, ⟨s0, s1, s2⟩, HC5⟩)
    | (go_at_call 50; with_reducible refine (HC5.out).mono ?_; rintro e w5 ⟨⟨r5, rfl⟩, HE⟩))
  exact HE.out
end Go.Proofs.Ytpnacppmdlnjlaa
