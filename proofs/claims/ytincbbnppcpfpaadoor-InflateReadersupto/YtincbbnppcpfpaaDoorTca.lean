import Derived.Test.YtincbbnppcpfpaaDoorTas
import Derived.Test.YtincbbnppcpfpaaDoorTar
import Derived.Test.YtincbbnppcpfpaaDoorTao
namespace Go.Proofs.YtincbbnppcpfpaaDoor
open Go.RowKit
set_option linter.unusedVariables false
variable {sb ga cg most p er : Nat} {b out : List By} {og : Option Nat} {vo : Value} {w : World}
abbrev drow (ga cg L p : Nat) (vo : Value) (most er : Nat) : Array Value := #[.slice (some ⟨ga, 0, none⟩) (8 * L : Nat) cg, .int .i64 p, vo, .int .i64 most, .int .i64 er]
/-- The document's state in memory: its bits lie in the block ga. -/
structure DsI (sb ga cg : Nat) (b : List By) (most p : Nat) (og : Option Nat) (vo : Value) (out : List By) (er : Nat) (w : World) : Prop where
  row : w.heap[sb]? = some (.cells (drow ga cg b.length p vo most er) 79)
  rd : Rd ga 0 (bl (le b) (8 * b.length)) w
  gl : ga < w.heap.size
  c1 : 8 * b.length ≤ cg
  c2 : cg < 9223372036854775808
  ho : Og og vo out w
  pl : p ≤ 8 * b.length
  n1 : sb ≠ ga
  n2 : ∀ g, og = some g → g ≠ sb ∧ g ≠ ga
  hb : b.length ≤ 1099511627776
  ml : most ≤ 4194304
  ol : out.length ≤ most
theorem DsI.keep {X : Nat → Prop} {w' : World} (h : DsI sb ga cg b most p og vo out er w) (f : Fr X w w') (x1 : ¬ X sb) (x2 : ¬ X ga) (x3 : ∀ g, og = some g → ¬ X g) : DsI sb ga cg b most p og vo out er w' :=
  ⟨row_kept h.row f x1, h.rd.kept f x2, Nat.lt_of_lt_of_le h.gl f.size, h.c1, h.c2, h.ho.kept f x3, h.pl, h.n1, h.n2, h.hb, h.ml, h.ol⟩
theorem DsI.nw {w' : World} (h : DsI sb ga cg b most p og vo out er w) (f : Nw w w') : DsI sb ga cg b most p og vo out er w' := h.keep f (fun h => h) (fun h => h) (fun _ _ h => h)
theorem DsI.lt (h : DsI sb ga cg b most p og vo out er w) : sb < w.heap.size := (Array.getElem?_eq_some_iff.1 h.row).1
theorem DsI.setP (h : DsI sb ga cg b most p og vo out er w) (q : Nat) (hq : q ≤ 8 * b.length) (z : Int) (hz : z = q) : DsI sb ga cg b most q og vo out er (w.setCell ⟨sb, 1, none⟩ (.int .i64 z)) ∧ Fr (fun k => k = sb) w (w.setCell ⟨sb, 1, none⟩ (.int .i64 z)) := by
  subst hz
  have f : Fr (fun k => k = sb) w (w.setCell ⟨sb, 1, none⟩ (.int .i64 q)) := (Fr.refl _ _).setCell _ _ (.inl rfl)
  exact ⟨⟨row_set h.row 1 _, h.rd.kept f (fun e => h.n1 e.symm), Nat.lt_of_lt_of_le h.gl f.size, h.c1, h.c2, h.ho.kept f (fun g hg e => (h.n2 g hg).1 e), hq, h.n1, h.n2, h.hb, h.ml, h.ol⟩, f⟩
theorem DsI.setE (h : DsI sb ga cg b most p og vo out er w) (q : Nat) (z : Int) (hz : z = q) : DsI sb ga cg b most p og vo out q (w.setCell ⟨sb, 4, none⟩ (.int .i64 z)) ∧ Fr (fun k => k = sb) w (w.setCell ⟨sb, 4, none⟩ (.int .i64 z)) := by
  subst hz
  have f : Fr (fun k => k = sb) w (w.setCell ⟨sb, 4, none⟩ (.int .i64 q)) := (Fr.refl _ _).setCell _ _ (.inl rfl)
  exact ⟨⟨row_set h.row 4 _, h.rd.kept f (fun e => h.n1 e.symm), Nat.lt_of_lt_of_le h.gl f.size, h.c1, h.c2, h.ho.kept f (fun g hg e => (h.n2 g hg).1 e), h.pl, h.n1, h.n2, h.hb, h.ml, h.ol⟩, f⟩
/-- The output changes. -/
theorem DsI.setO {og' : Option Nat} {vo' : Value} {out' : List By} {W : World} (h : DsI sb ga cg b most p og vo out er w) (f : Fr (fun k => og = some k) w W) (ho : Og og' vo' out' W) (hg : Went og og' w) (hl : out'.length ≤ most) : DsI sb ga cg b most p og' vo' out' er (W.setCell ⟨sb, 2, none⟩ vo') ∧ Fr (fun k => k = sb ∨ og = some k) w (W.setCell ⟨sb, 2, none⟩ vo') := by
  have n2' : ∀ g, og' = some g → g ≠ sb ∧ g ≠ ga := fun g e => by
    rcases hg with rfl | ⟨g', rfl, hw⟩
    · exact h.n2 g e
    · injection e with e
      subst e
      have h1 := h.lt
      have h2 := h.gl
      exact ⟨by omega, by omega⟩
  have hrow : W.heap[sb]? = some (.cells (drow ga cg b.length p vo most er) 79) := row_kept h.row f (fun e => (h.n2 sb e).1 rfl)
  have f2 : Fr (fun k => k = sb) W (W.setCell ⟨sb, 2, none⟩ vo') := (Fr.refl _ _).setCell _ _ (.inl rfl)
  refine ⟨⟨row_set hrow 2 _, (h.rd.kept f (fun e => (h.n2 ga e).2 rfl)).kept f2 (fun e => h.n1 e.symm), Nat.lt_of_lt_of_le h.gl (Nat.le_trans f.size f2.size), h.c1, h.c2, ho.kept f2 (fun g e => (n2' g e).1), h.pl, h.n1, n2', h.hb, h.ml, hl⟩, ?_⟩
  exact Fr.then (f.mono (fun i hi => .inl (.inr hi))) f2 (fun i hi => .inl (.inl hi))
/-- What is still to be read gives R. -/
def Cn {β : Type} (b : List By) (R : Rz (β × Bt)) (er p : Nat) (g : Rdr β) : Prop := (er ≠ 0 ∧ R = .bad er) ∨ (er = 0 ∧ R = g (bt b p))
theorem takeR_bad {n : Nat} (h : 8 * b.length - p < n) : takeR n (bt b p) = .bad 4 := by unfold takeR bt; rw [if_pos h]
theorem takeR_good {n : Nat} (h : ¬ 8 * b.length - p < n) : takeR n (bt b p) = .ok (le b / 2 ^ p % 2 ^ n, bt b (p + n)) := by
  rw [← bt_rest]; unfold takeR; rw [if_neg (by unfold bt; exact h)]; rfl
theorem take_nx (V p I : Nat) : V / 2 ^ p % 2 ^ (I + 1) = V / 2 ^ p % 2 ^ I + 2 ^ I * (V / 2 ^ (p + I) % 2) := by
  rw [Nat.pow_add 2 p, ← Nat.div_div_eq_div_mul, Nat.pow_succ, Nat.mod_mul]
theorem ds0 (h : DsI sb ga cg b most p og vo out er w) : w.cell? ⟨sb, 0, none⟩ = some (.slice (some ⟨ga, 0, none⟩) (8 * b.length : Nat) cg) ∧ w.frozen? ⟨sb, 0, none⟩ = false := row_cell h.row 0 _ rfl
theorem ds1 (h : DsI sb ga cg b most p og vo out er w) : w.cell? ⟨sb, 1, none⟩ = some (.int .i64 p) ∧ w.frozen? ⟨sb, 1, none⟩ = false := row_cell h.row 1 _ rfl
theorem ds2 (h : DsI sb ga cg b most p og vo out er w) : w.cell? ⟨sb, 2, none⟩ = some vo ∧ w.frozen? ⟨sb, 2, none⟩ = false := row_cell h.row 2 _ rfl
theorem ds3 (h : DsI sb ga cg b most p og vo out er w) : w.cell? ⟨sb, 3, none⟩ = some (.int .i64 most) ∧ w.frozen? ⟨sb, 3, none⟩ = false := row_cell h.row 3 _ rfl
theorem ds4 (h : DsI sb ga cg b most p og vo out er w) : w.cell? ⟨sb, 4, none⟩ = some (.int .i64 er) ∧ w.frozen? ⟨sb, 4, none⟩ = false := row_cell h.row 4 _ rfl
theorem ne0 {x : Nat} (h : x ≠ 0) : ((x : Int) != 0) = true := by simp only [bne_iff_ne, ne_eq]; omega
theorem ne0' {x : Nat} (h : x ≠ 0) : ((x : Int) == 0) = false := by simp only [beq_eq_false_iff_ne, ne_eq]; omega
/-- A bit. -/
theorem DsI.bit (h : DsI sb ga cg b most p og vo out er w) (q : Nat) (hq : q < 8 * b.length) : w.cell? ⟨ga, q, none⟩ = some (.int .u8 (le b / 2 ^ q % 2 : Nat)) := by
  have := h.rd.at q _ (bl_at (le b) (8 * b.length) q hq)
  rw [Nat.zero_add] at this
  rw [this]
  simp only [bv, BitVec.toNat_ofNat]
  rw [Nat.mod_eq_of_lt (by omega)]
/-- What bits answers. -/
def BtA {β : Type} (sb ga cg : Nat) (b : List By) (most p : Nat) (og : Option Nat) (vo : Value) (out : List By) (w : World) (n : Nat) (R : Rz (β × Bt)) (f : Nat → Rdr β) (e : Ending) (w' : World) : Prop :=
  ∃ x p' er', e = .returned (.int .i64 (x : Nat)) ∧ x < 2 ^ n ∧ p ≤ p' ∧ Hid (DsI sb ga cg b most p' og vo out er' w' ∧ Fr (fun k => k = sb) w w' ∧ Cn b R er' p' (f x))
set_option maxHeartbeats 8000000 in
set_option maxRecDepth 100000 in
theorem hbits_any {β : Type} (h : DsI sb ga cg b most p og vo out er w) (n : Nat) (hn : n ≤ 16) (R : Rz (β × Bt)) (f : Nat → Rdr β) (hc : Cn b R er p (bindR (takeR n) f)) :
    Calls Tryd.prog 36 #[.pointer (some ⟨sb, 0, none⟩), .int .i64 n] w (BtA sb ga cg b most p og vo out w n R f) := by
  obtain ⟨P, hP⟩ : ∃ P, P = BtA sb ga cg b most p og vo out w n R f := ⟨_, rfl⟩
  rw [← hP]
  have x4 := (ds4 h).1
  by_cases he : er = 0
  · subst he
    have hR : R = bindR (takeR n) f (bt b p) := by
      rcases hc with ⟨h1, _⟩ | ⟨_, h2⟩
      · exact absurd rfl h1
      · exact h2
    obtain ⟨x0, x1, y4⟩ := And.intro (ds0 h).1 (And.intro (ds1 h).1 (ds4 h).2)
    have hbl := h.hb
    have hpl := h.pl
    have hc2 := h.c2
    have hc1 := h.c1
    obtain ⟨N, hN⟩ : ∃ N, N = 8 * b.length := ⟨_, rfl⟩
    rw [← hN] at x0 hc1 hpl
    have hNb : N ≤ 8796093022208 := by omega
    obtain ⟨q, hq⟩ : ∃ q, q = N - p := ⟨_, rfl⟩
    have hqi : (N : Int) - (p : Int) = (q : Int) := by omega
    by_cases hs : q < n
    · have HF : Hid (∀ V, Nw w V → P (.returned (.int .i64 0)) (V.setCell ⟨sb, 4, none⟩ (.int .i64 4))) := fun V hV => by
        obtain ⟨k1, k2⟩ := (h.nw hV).setE 4 4 rfl
        rw [hP]
        refine ⟨0, p, 4, rfl, Nat.pow_pos (by decide), Nat.le_refl _, k1, hV.any.trans k2, .inl ⟨by decide, ?_⟩⟩
        rw [hR]; exact bindR_bad (takeR_bad (by omega))
      have hz : (q : Int) < (n : Int) := by omega
      clear hP h hc hR hN hq
      go_enter Tryd.func36, Tryd.ntmps36
      go_wp2_with fail
      go_quiet (fail)
      go_wp2_with fail
      exact HF.out _ ((Fr.refl _ _).drewN _)
    · have HF : Hid (∀ V, Nw w V → P (.returned (.int .i64 (le b / 2 ^ p % 2 ^ n : Nat))) (V.setCell ⟨sb, 1, none⟩ (.int .i64 (p + n : Nat)))) := fun V hV => by
        obtain ⟨k1, k2⟩ := (h.nw hV).setP (p + n) (by omega) _ rfl
        rw [hP]
        refine ⟨_, p + n, 0, rfl, Nat.mod_lt _ (Nat.pow_pos (by decide)), by omega, k1, hV.any.trans k2, .inr ⟨rfl, ?_⟩⟩
        rw [hR, bindR_eq (takeR_good (by omega))]
      have hz : ¬ (q : Int) < (n : Int) := by omega
      have HI : Hid (∀ V, Nw w V → V.cell? ⟨sb, 0, none⟩ = some (.slice (some ⟨ga, 0, none⟩) N cg) ∧ V.cell? ⟨sb, 1, none⟩ = some (.int .i64 p) ∧ V.frozen? ⟨sb, 1, none⟩ = false ∧ ∀ q, q < N → V.cell? ⟨ga, q, none⟩ = some (.int .u8 (le b / 2 ^ q % 2 : Nat))) := fun V hV => by
        have k := h.nw hV
        refine ⟨by rw [hN]; exact (ds0 k).1, (ds1 k).1, (ds1 k).2, fun q hq => k.bit q (by omega)⟩
      have hpn : p + n ≤ N := by omega
      have hpni : (p : Int) + (n : Int) = ((p + n : Nat) : Int) := by omega
      clear hP h hc hR hN hq
      generalize hPN : p + n = PN at *
      have hPN' : PN ≤ 8796093022208 := by omega
      clear hPN
      go_enter Tryd.func36, Tryd.ntmps36
      go_wp2_with fail
      go_quiet (fail)
      have hW0 : Hid (Nw w (w.drewN nq)) := (Fr.refl _ _).drewN _
      generalize w.drewN nq = w0 at *
      go_wp2_with fail
      go_loopg [5, 6] n (fun kx xx i wr => ∃ I : Nat, I ≤ n ∧ n - I ≤ kx ∧ xx = .int .i64 (le b / 2 ^ p % 2 ^ I : Nat) ∧ i = .int .i64 I ∧ Hid (Nw w wr))
      case atStart => exact ⟨0, by omega, by omega, by simp [Nat.mod_one], rfl, hW0⟩
      case round =>
        obtain ⟨I, hI, hkx, rfl, rfl, HW⟩ := hrel
        obtain ⟨y0, y1, y2, y3⟩ := HI.out wr HW.out
        by_cases hlt : I < n
        · have hz1 : (I : Int) < (n : Int) := by omega
          have hnx := take_nx (le b) p I
          have hcell := y3 (p + I) (by omega)
          have hx : le b / 2 ^ p % 2 ^ I < 2 ^ I := Nat.mod_lt _ (Nat.pow_pos (by decide))
          have hpw : 2 ^ I ≤ 2 ^ 16 := Nat.pow_le_pow_right (by decide) (by omega)
          obtain ⟨t, ht⟩ : ∃ t, t = le b / 2 ^ (p + I) % 2 := ⟨_, rfl⟩
          have htl : t < 2 := by omega
          rw [← ht] at hcell hnx
          obtain ⟨y, hy⟩ : ∃ y, y = 2 ^ I * t := ⟨_, rfl⟩
          have hyl : y ≤ 65536 := by
            rw [hy]
            have : 2 ^ I * t ≤ 2 ^ 16 * 1 := Nat.mul_le_mul hpw (by omega)
            omega
          have hyi : (t : Int) * 2 ^ I = (y : Int) := by rw [hy, Nat.mul_comm]; push_cast; rfl
          rw [← hy] at hnx
          obtain ⟨x, hxx⟩ : ∃ x, x = le b / 2 ^ p % 2 ^ I := ⟨_, rfl⟩
          rw [← hxx] at hnx hx ⊢
          obtain ⟨x', hx'⟩ : ∃ x', x' = x + y := ⟨_, rfl⟩
          have hxi : (x : Int) + (y : Int) = (x' : Int) := by omega
          have HE : Hid (le b / 2 ^ p % 2 ^ (I + 1) = x') := by show _ = _; rw [hnx, hx']
          have hx'l : x' ≤ 131072 := by omega
          have hxl : x ≤ 65536 := by omega
          obtain ⟨pi, hpi⟩ : ∃ pi, pi = p + I := ⟨_, rfl⟩
          have hpii : (p : Int) + (I : Int) = (pi : Int) := by omega
          have hpiN : pi < N := by omega
          have hpic : pi < cg := by omega
          rw [← hpi] at hcell
          have hI16 : I < 16 := by omega
          clear HF HI hnx hx hpw ht hy hxx hx' hpi y3 hW0
          go_wp2_with fail
          go_quiet (fail)
          go_wp2_with fail
          go_roundg (n - (I + 1))
          case measure => omega
          case rel => exact ⟨I + 1, by omega, by omega, by rw [HE.out], by first | rfl | (congr 1), HW.out.trans ((Fr.refl _ _).drewN _)⟩
        · obtain rfl : I = n := by omega
          have HF2 : Hid (P (.returned (.int .i64 (le b / 2 ^ p % 2 ^ I : Nat))) (wr.setCell ⟨sb, 1, none⟩ (.int .i64 PN))) := HF.out wr HW.out
          clear HF HI y3
          generalize le b / 2 ^ p % 2 ^ I = x at *
          go_wp2_with fail
          exact HF2.out
  · have HF : Hid (P (.returned (.int .i64 0)) w) := by
      show P _ _
      rw [hP]
      refine ⟨0, p, er, rfl, Nat.pow_pos (by decide), Nat.le_refl _, h, Fr.refl _ _, .inl ⟨he, ?_⟩⟩
      rcases hc with ⟨_, h1⟩ | ⟨h1, _⟩
      · exact h1
      · exact absurd h1 he
    have hz := ne0 he
    clear hP h hc
    go_enter Tryd.func36, Tryd.ntmps36
    go_wp2_with fail
    exact HF.out
end Go.Proofs.YtincbbnppcpfpaaDoor

namespace Go.Proofs.YtincbbnppcpfpaaDoor
open Go.RowKit
set_option linter.unusedVariables false
/-! ### BitsKraft -/
def prtI (z : Int) : Nat := if 0 < z ∧ z ≤ 15 then 2 ^ (15 - z.toNat) else 0
def partsI : List Int → Nat
  | [] => 0
  | z :: r => prtI z + partsI r
def wordsI : List Int → Nat
  | [] => 0
  | z :: r => (if 0 < z ∧ z ≤ 15 then 1 else 0) + wordsI r
theorem partsI_app (a b : List Int) : partsI (a ++ b) = partsI a + partsI b := by
  induction a with
  | nil => simp [partsI]
  | cons x r ih => simp only [List.cons_append, partsI, ih]; omega
theorem wordsI_app (a b : List Int) : wordsI (a ++ b) = wordsI a + wordsI b := by
  induction a with
  | nil => simp [wordsI]
  | cons x r ih => simp only [List.cons_append, wordsI, ih]; omega
theorem prtI_le (z : Int) : prtI z ≤ 16384 := by
  unfold prtI
  split
  · rename_i h
    exact Nat.le_trans (Nat.pow_le_pow_right (by decide) (by omega : 15 - z.toNat ≤ 14)) (by decide)
  · omega
theorem partsI_le (zs : List Int) : partsI zs ≤ 16384 * zs.length ∧ wordsI zs ≤ zs.length := by
  induction zs with
  | nil => simp [partsI, wordsI]
  | cons x r ih =>
    have := prtI_le x
    simp only [partsI, wordsI, List.length_cons]
    split <;> omega
theorem take_snocI (zs : List Int) (I : Nat) (x : Int) (hx : zs[I]? = some x) : zs.take (I + 1) = zs.take I ++ [x] := by
  rw [List.take_add_one, hx]; rfl
theorem partsI_step (zs : List Int) (I : Nat) (x : Int) (hx : zs[I]? = some x) : partsI (zs.take (I + 1)) = partsI (zs.take I) + prtI x ∧ wordsI (zs.take (I + 1)) = wordsI (zs.take I) + (if 0 < x ∧ x ≤ 15 then 1 else 0) := by
  rw [take_snocI zs I x hx, partsI_app, wordsI_app]
  simp [partsI, wordsI]
theorem partsI_toI (ls : List Nat) (h : ∀ x ∈ ls, x ≤ 15) : partsI (toI ls) = parts ls ∧ (0 < wordsI (toI ls) ↔ 0 < parts ls) := by
  induction ls with
  | nil => simp [toI, partsI, wordsI, parts]
  | cons x r ih =>
    obtain ⟨h1, h2⟩ := ih (fun y hy => h y (List.mem_cons_of_mem _ hy))
    have hx := h x (List.mem_cons_self ..)
    have e : toI (x :: r) = (x : Int) :: toI r := rfl
    rw [e]
    simp only [partsI, wordsI, parts, h1]
    by_cases h0 : x = 0
    · subst h0
      have e1 : prtI ((0 : Nat) : Int) = 0 := by decide
      have e2 : prt 0 = 0 := rfl
      rw [e1, e2, if_neg (by omega)]
      refine ⟨rfl, ?_⟩
      simpa using h2
    · have e1 : prtI (x : Int) = prt x := by
        unfold prtI prt
        rw [if_pos (by omega), if_neg h0, Int.toNat_natCast]
      have e2 : 0 < prt x := by
        unfold prt
        rw [if_neg h0]; exact Nat.two_pow_pos _
      rw [e1, if_pos (by omega)]
      refine ⟨rfl, ?_⟩
      constructor <;> intro _ <;> omega
theorem kraft_code (ls : List Nat) (hk : Cod ls) : partsI (toI ls) = room ls ∧ 0 < wordsI (toI ls) := by
  have h : ∀ x ∈ ls, x ≤ 15 := fun x hx => by
    obtain ⟨j, hj⟩ := List.mem_iff_getElem?.1 hx
    have := hk.each j
    rw [List.getD_eq_getElem?_getD, hj] at this
    exact this
  obtain ⟨h1, h2⟩ := partsI_toI ls h
  have h3 := parts_eq ls h
  refine ⟨by rw [h1, h3], h2.2 (by rw [h3]; exact hk.pos)⟩
theorem kraft (zs : List Int) : IsCode zs ↔ (1 ≤ zs.length ∧ zs.length ≤ 320) ∧ (∀ j x, j < zs.length → zs[j]? = some x → 0 ≤ x ∧ x ≤ 15) ∧ 0 < wordsI zs ∧ partsI zs ≤ 32768 := by
  constructor
  · rintro ⟨ls, rfl, hk⟩
    obtain ⟨h1, h2⟩ := kraft_code ls hk
    have hf := hk.fit
    refine ⟨⟨?_, by rw [toI_length]; exact hk.len⟩, ?_, h2, by omega⟩
    · cases ls with
      | nil => simp [toI, wordsI] at h2
      | cons x r => simp [toI]
    · intro j x hj hx
      rw [toI_length] at hj
      rw [toI_at ls j hj] at hx
      injection hx with hx
      have := hk.each j
      omega
  · rintro ⟨⟨h1, h2⟩, h3, h4, h5⟩
    obtain ⟨ls, rfl, hl1, hl2⟩ := toI_of zs (fun z hz => by
      obtain ⟨j, hj⟩ := List.mem_iff_getElem?.1 hz
      exact h3 j z (List.getElem?_eq_some_iff.1 hj).1 hj)
    obtain ⟨k1, k2⟩ := partsI_toI ls hl2
    have k3 := parts_eq ls hl2
    rw [toI_length] at h2
    exact ⟨ls, rfl, hl1, h2, by have := k2.1 h4; omega, by omega⟩
end Go.Proofs.YtincbbnppcpfpaaDoor

namespace Go.Proofs.YtincbbnppcpfpaaDoor
open Go.RowKit
set_option linter.unusedVariables false
variable {ls : List Nat}
theorem wdP_lt (i : Nat) : (wdP ls i).1 < 2 ^ ls.getD i 0 := by
  unfold wdP
  split
  · exact Nat.two_pow_pos _
  · exact rev_lt _ _
/-! ### BitsCodes: the document's words, as bits -/
theorem bl_eq (a b n : Nat) : bl a n = bl b n ↔ a % 2 ^ n = b % 2 ^ n := by
  induction n generalizing a b with
  | zero => simp [bl, Nat.mod_one]
  | succ n ih =>
    rw [bl, bl, List.cons.injEq, ih]
    have e : ∀ x : Nat, x % 2 ^ (n + 1) = x % 2 + 2 * (x / 2 % 2 ^ n) := fun x => by rw [Nat.pow_succ, Nat.mul_comm, Nat.mod_mul]
    rw [e a, e b]
    constructor
    · rintro ⟨h1, h2⟩
      have := congrArg BitVec.toNat h1
      simp only [BitVec.toNat_ofNat] at this
      omega
    · intro h
      have h1 : a % 2 = b % 2 := by omega
      exact ⟨by rw [h1], by omega⟩
/-- Bits of the word, as the document takes them out of the number. -/
theorem rev_bit (n c j : Nat) (hj : j < n) : rev n c / 2 ^ j % 2 = c / 2 ^ (n - 1 - j) % 2 := by
  have h := rev_test n c j hj
  rw [Nat.testBit_eq_decide_div_mod_eq, Nat.testBit_eq_decide_div_mod_eq, decide_eq_decide] at h
  have h1 : rev n c / 2 ^ j % 2 < 2 := Nat.mod_lt _ (by decide)
  have h2 : c / 2 ^ (n - 1 - j) % 2 < 2 := Nat.mod_lt _ (by decide)
  omega
/-- The word of a symbol, as bits. -/
def wb (ls : List Nat) (i : Nat) : List By := bl (wdP ls i).1 (ls.getD i 0)
theorem wb_length (i : Nat) : (wb ls i).length = ls.getD i 0 := bl_length _ _
theorem wb_nil (i : Nat) (h : ls.getD i 0 = 0) : wb ls i = [] := by unfold wb; rw [h]; rfl
/-- The number that grows: code and was, ahead of symbol i at length n. -/
def CwI (ls : List Nat) (n i code was : Nat) : Prop := was ≤ n ∧ code * 2 ^ (n - was) = nm ls n + (ls.take i).count n
theorem CwI.start (ls : List Nat) : CwI ls 1 0 0 0 := by
  refine ⟨by decide, ?_⟩
  simp [nm, ct]
theorem CwI.skip {n i code was : Nat} (h : CwI ls n i code was) (hi : i < ls.length) (hn : ls.getD i 0 ≠ n) : CwI ls n (i + 1) code was := by
  refine ⟨h.1, ?_⟩
  rw [count_take_succ ls i n hi, if_neg hn, Nat.add_zero]
  exact h.2
theorem CwI.hit {n i code was : Nat} (h : CwI ls n i code was) (hi : i < ls.length) (hn : ls.getD i 0 = n) : code * 2 ^ (n - was) = cd ls i ∧ CwI ls n (i + 1) (cd ls i + 1) n := by
  have e : code * 2 ^ (n - was) = cd ls i := by rw [h.2, cd, rk, hn]
  refine ⟨e, Nat.le_refl _, ?_⟩
  rw [count_take_succ ls i n hi, if_pos hn, ← Nat.add_assoc, ← h.2, e]
  simp
theorem CwI.next {n code was : Nat} (h : CwI ls n ls.length code was) (hn : n ≠ 0) : CwI ls (n + 1) 0 code was := by
  refine ⟨by have := h.1; omega, ?_⟩
  have e := h.2
  rw [List.take_length, ← ct_pos ls n hn] at e
  rw [show n + 1 - was = n - was + 1 by have := h.1; omega, Nat.pow_succ, ← Nat.mul_assoc, e, nm]
  simp; omega
theorem CwI.le {n i code was : Nat} (h : CwI ls n i code was) (hk : Cod ls) (hn : 1 ≤ n) (hn2 : n ≤ 15) : code ≤ 32768 ∧ code * 2 ^ (n - was) ≤ 32768 := by
  have h1 := nm_le ls n hn2 hk.fit
  have h2 : (ls.take i).count n ≤ ls.count n := List.Sublist.count_le _ (List.take_sublist _ _)
  rw [← ct_pos ls n (by omega)] at h2
  have h3 : (2 : Nat) ^ n ≤ 2 ^ 15 := Nat.pow_le_pow_right (by decide) hn2
  have h4 : code * 1 ≤ code * 2 ^ (n - was) := Nat.mul_le_mul_left _ (Nat.two_pow_pos _)
  have := h.2
  omega
/-- What the document's Read answers. -/
def Lie (ls : List Nat) (R N i : Nat) : Prop := i < ls.length ∧ ls.getD i 0 ≠ 0 ∧ ls.getD i 0 ≤ N ∧ bl R (ls.getD i 0) = wb ls i
def Shr (ls : List Nat) (R N i : Nat) : Prop := i < ls.length ∧ ls.getD i 0 ≠ 0 ∧ N ≤ ls.getD i 0 ∧ (wb ls i).take N = bl R N
def SRaw (ls : List Nat) (R N s n h : Nat) : Prop :=
  (h = 0 ∧ n = ls.getD s 0 ∧ Lie ls R N s) ∨ (s = 0 ∧ n = 0 ∧ (∀ i, ¬ Lie ls R N i) ∧ ((h = 50 ∧ ∃ i, Shr ls R N i) ∨ (h = 52 ∧ ∀ i, ¬ Shr ls R N i)))
theorem lie_hits (hk : Cod ls) {R N i : Nat} (h : Lie ls R N i) : Hits ls (rev 15 R) i := by
  obtain ⟨h1, h2, h3, h4⟩ := h
  rw [hits_iff hk R i h1 h2]
  have := (bl_eq _ _ _).1 h4
  rw [this, Nat.mod_eq_of_lt (wdP_lt i)]
  unfold wdP
  rw [if_neg h2]
theorem hits_word (hk : Cod ls) {R i : Nat} (h : Hits ls (rev 15 R) i) : R % 2 ^ ls.getD i 0 = (wdP ls i).1 := by
  have := (hits_iff hk R i h.1 h.2.1).1 h
  rw [this]
  unfold wdP
  rw [if_neg h.2.1]
theorem hits_lie (hk : Cod ls) {R N i : Nat} (h : Hits ls (rev 15 R) i) (hN : ls.getD i 0 ≤ N) : Lie ls R N i := by
  refine ⟨h.1, h.2.1, hN, ?_⟩
  unfold wb
  rw [bl_eq, hits_word hk h, Nat.mod_eq_of_lt (wdP_lt i)]
theorem shr_iff (hk : Cod ls) {R N i : Nat} (hR : R < 2 ^ N) (h : Shr ls R N i) : (wdP ls i).1 % 2 ^ N = R := by
  obtain ⟨h1, h2, h3, h4⟩ := h
  unfold wb at h4
  rw [bl_take _ _ _ h3, bl_eq, Nat.mod_eq_of_lt hR] at h4
  exact h4
/-- Both read the same. -/
theorem raw_found (hk : Cod ls) {R N i s n h : Nat} (hi : Hits ls (rev 15 R) i) (hN : ls.getD i 0 ≤ N) (hs : SRaw ls R N s n h) : s = i ∧ n = ls.getD i 0 ∧ h = 0 := by
  rcases hs with ⟨rfl, rfl, h1⟩ | ⟨_, _, h1, _⟩
  · have := hk.hits_uniq (lie_hits hk h1) hi
    subst this
    exact ⟨rfl, rfl, rfl⟩
  · exact absurd (hits_lie hk hi hN) (h1 i)
theorem raw_short (hk : Cod ls) {R N i s n h : Nat} (hR : R < 2 ^ N) (hi : Hits ls (rev 15 R) i) (hN : N < ls.getD i 0) (hs : SRaw ls R N s n h) : s = 0 ∧ n = 0 ∧ h = 50 := by
  rcases hs with ⟨rfl, rfl, h1⟩ | ⟨rfl, rfl, h1, ⟨rfl, _⟩ | ⟨rfl, h2⟩⟩
  · have := hk.hits_uniq (lie_hits hk h1) hi
    subst this
    have := h1.2.2.1
    omega
  · exact ⟨rfl, rfl, rfl⟩
  · refine absurd ⟨hi.1, hi.2.1, by omega, ?_⟩ (h2 i)
    unfold wb
    have hw := hits_word hk hi
    have hp : (2 : Nat) ^ N ≤ 2 ^ ls.getD i 0 := Nat.pow_le_pow_right (by decide) (by omega)
    rw [Nat.mod_eq_of_lt (by omega)] at hw
    rw [bl_take _ _ _ (by omega), bl_eq, ← hw]
theorem raw_none (hk : Cod ls) {R N s n h : Nat} (hR : R < 2 ^ N) (hp : Past ls (rev 15 R) 16) (hs : SRaw ls R N s n h) : s = 0 ∧ n = 0 ∧ h = 52 := by
  rcases hs with ⟨rfl, rfl, h1⟩ | ⟨rfl, rfl, h1, ⟨rfl, i, h2⟩ | ⟨rfl, h2⟩⟩
  · exact absurd (lie_hits hk h1) (hp.none hk _)
  · have h3 := shr_iff hk hR h2
    obtain ⟨a, b, c, _⟩ := h2
    unfold wdP at h3
    rw [if_neg b] at h3
    exact absurd h3 (hp.no_short hk hR i a b c)
  · exact ⟨rfl, rfl, rfl⟩
end Go.Proofs.YtincbbnppcpfpaaDoor

namespace Go.Proofs.YtincbbnppcpfpaaDoor
open Go.RowKit
set_option linter.unusedVariables false
/-! ### The document's sum and Code -/
def inR (zs : List Int) : Prop := ∀ (j : Nat) (x : Int), zs[j]? = some x → 0 ≤ x ∧ x ≤ 15
theorem kraft2 (zs : List Int) (h1 : 1 ≤ zs.length) (h2 : zs.length ≤ 320) (h3 : inR zs) : IsCode zs ↔ (0 < partsI zs ∧ partsI zs ≤ 32768) := by
  rw [kraft]
  obtain ⟨ls, rfl, hl1, hl2⟩ := toI_of zs (fun z hz => by
    obtain ⟨j, hj⟩ := List.mem_iff_getElem?.1 hz
    exact h3 j z hj)
  obtain ⟨k1, k2⟩ := partsI_toI ls hl2
  rw [k2, ← k1]
  constructor
  · rintro ⟨_, _, a, b⟩; exact ⟨a, b⟩
  · rintro ⟨a, b⟩; exact ⟨⟨h1, h2⟩, fun j x _ hx => h3 j x hx, a, b⟩
set_option maxHeartbeats 8000000 in
theorem ssum_any (w : World) (v : Value) (zs : List Int) (h : SlR RI (fun _ => False) v zs w) (hl : zs.length ≤ 320) (hr : inR zs) : Calls Tryd.prog 74 #[v] w fun e w' => e = .returned (.int .i64 (partsI zs)) ∧ w' = w := by
  obtain ⟨P, hP⟩ : ∃ P : Ending → World → Prop, P = fun e w' => e = .returned (.int .i64 (partsI zs)) ∧ w' = w := ⟨_, rfl⟩
  rw [← hP]
  have HS : Hid (SlR RI (fun _ => False) v zs w) := h
  obtain ⟨a, c, rfl, hc, hc2, hca⟩ := h.form
  have HF : Hid (P (.returned (.int .i64 (partsI zs))) w) := by
    show P _ _
    rw [hP]; exact ⟨rfl, rfl⟩
  have HR : Hid (inR zs) := hr
  clear hP h hr
  generalize hL : zs.length = L at *
  have hL' : Hid (zs.length = L) := hL
  clear hL
  go_enter Tryd.func74, Tryd.ntmps74
  go_wp2
  go_loopg [3, 4] L (fun kx s i wr => ∃ (I S : Nat), I ≤ L ∧ L - I ≤ kx ∧ s = .int .i64 S ∧ i = .int .i64 I ∧ wr = w ∧ Hid (S = partsI (zs.take I)))
  case atStart => exact ⟨0, 0, by omega, by omega, rfl, rfl, rfl, (by show 0 = partsI (zs.take 0); simp [partsI])⟩
  case round =>
    obtain ⟨I, S, hI, hkx, rfl, rfl, rfl, HI⟩ := hrel
    by_cases hlt : I < L
    · have hlt' : I < zs.length := by rw [hL'.out]; exact hlt
      obtain ⟨g, o, rfl, _, hcell⟩ := ri_at HS.out I zs[I] (List.getElem?_eq_getElem hlt')
      have hz : (I : Int) < (L : Int) := by omega
      have hxx : zs[I]? = some zs[I] := List.getElem?_eq_getElem hlt'
      generalize zs[I] = x at *
      obtain ⟨hx0, hx1⟩ := HR.out I x hxx
      have hst := (partsI_step zs I x hxx).1
      have hS : S ≤ 16384 * 320 := by
        have := (partsI_le (zs.take I)).1
        rw [List.length_take] at this
        have := HI.out
        omega
      rw [← HI.out] at hst
      by_cases hp : 0 < x
      · obtain ⟨n, rfl⟩ : ∃ n : Nat, x = (n : Int) := ⟨x.toNat, by omega⟩
        have hn : n ≤ 15 := by omega
        obtain ⟨k, hk⟩ : ∃ k, k = 15 - n := ⟨_, rfl⟩
        have hki : (15 : Int) - (n : Int) = (k : Int) := by omega
        have hk15 : k ≤ 14 := by omega
        have hpr : prtI (n : Int) = 2 ^ k := by
          unfold prtI
          rw [if_pos ⟨hp, hx1⟩, Int.toNat_natCast, ← hk]
        rw [hpr] at hst
        have hpw : (2 : Nat) ^ k ≤ 2 ^ 14 := Nat.pow_le_pow_right (by decide) hk15
        have HN : Hid (S + 2 ^ k = partsI (zs.take (I + 1))) := hst.symm
        have hT : ((2 : Int) ^ k) = ((2 ^ k : Nat) : Int) := by push_cast; rfl
        clear hst hpr HI HR HS HF hk hxx
        generalize 2 ^ k = T at *
        go_wp2_with fail
        go_roundg (L - (I + 1))
        case measure => omega
        case rel => exact ⟨I + 1, S + T, by omega, by omega, by first | rfl | (congr 1), by first | rfl | (congr 1), rfl, HN⟩
      · have hx : x = 0 := by omega
        subst hx
        have e0 : prtI 0 = 0 := by decide
        rw [e0] at hst
        have HN : Hid (S = partsI (zs.take (I + 1))) := hst.symm
        clear hst HI HR HS HF hxx
        go_wp2_with fail
        go_roundg (L - (I + 1))
        case measure => omega
        case rel => exact ⟨I + 1, S, by omega, by omega, rfl, by first | rfl | (congr 1), rfl, HN⟩
    · obtain rfl : I = L := by omega
      have hz : ¬ (I : Int) < (I : Int) := by omega
      have hS : S = partsI zs := by
        have := HI.out
        rw [List.take_of_length_le (by rw [hL'.out]; exact Nat.le_refl _)] at this
        exact this
      rw [← hS] at HF
      clear HI HS HR hS
      go_wp2_with fail
      exact HF.out
/-- What the document's Code answers. -/
def CodA (zs : List Int) (w : World) (e : Ending) (w' : World) : Prop := (∃ b q, e = .returned (.tuple #[.bool b, .bool q]) ∧ (b = true ↔ IsCode zs) ∧ (IsCode zs → q = decide (partsI zs = 32768))) ∧ w' = w
set_option maxHeartbeats 8000000 in
theorem scode_any (w : World) (v : Value) (zs : List Int) (h : SlR RI (fun _ => False) v zs w) (hl : zs.length ≤ 17592186043904) : Calls Tryd.prog 59 #[v] w (CodA zs w) := by
  obtain ⟨P, hP⟩ : ∃ P : Ending → World → Prop, P = CodA zs w := ⟨_, rfl⟩
  rw [← hP]
  have HS : Hid (SlR RI (fun _ => False) v zs w) := h
  obtain ⟨a, c, rfl, hc, hc2, hca⟩ := h.form
  have HP : Hid (P = CodA zs w) := hP
  have HNo : Hid (¬ IsCode zs → P (.returned (.tuple #[.bool false, .bool false])) w) := fun hn => by
    rw [hP]
    exact ⟨⟨false, false, rfl, by simp [hn], fun h => absurd h hn⟩, rfl⟩
  have HSum : Hid (zs.length ≤ 320 → inR zs → Calls Tryd.prog 74 #[.slice a zs.length c] w fun e w' => e = .returned (.int .i64 (partsI zs)) ∧ w' = w) := fun h1 h2 => ssum_any w _ zs h h1 h2
  clear hP h
  generalize hL : zs.length = L at *
  have hL' : Hid (zs.length = L) := hL
  clear hL
  by_cases hb : 1 ≤ L ∧ L ≤ 320
  · obtain ⟨hb1, hb2⟩ := hb
    have g1 : ¬ (L : Int) < 1 := by omega
    have g2 : ¬ (320 : Int) < (L : Int) := by omega
    go_enter Tryd.func59, Tryd.ntmps59
    go_wp2
    go_loopg [4] L (fun kx i wr => ∃ (I : Nat), I ≤ L ∧ L - I ≤ kx ∧ i = .int .i64 I ∧ wr = w ∧ Hid (∀ j x, j < I → zs[j]? = some x → 0 ≤ x ∧ x ≤ 15))
    case atStart => exact ⟨0, by omega, by omega, rfl, rfl, fun j x hj => by omega⟩
    case round =>
      obtain ⟨I, hI, hkx, rfl, rfl, HI⟩ := hrel
      by_cases hlt : I < L
      · have hlt' : I < zs.length := by rw [hL'.out]; exact hlt
        obtain ⟨g, o, rfl, _, hcell⟩ := ri_at HS.out I zs[I] (List.getElem?_eq_getElem hlt')
        have hz : (I : Int) < (L : Int) := by omega
        have hxx : zs[I]? = some zs[I] := List.getElem?_eq_getElem hlt'
        generalize zs[I] = x at *
        by_cases hx : 0 ≤ x ∧ x ≤ 15
        · have HN : Hid (∀ j y, j < I + 1 → zs[j]? = some y → 0 ≤ y ∧ y ≤ 15) := fun j y hj hy => by
            by_cases e : j = I
            · rw [e, hxx] at hy; injection hy with hy; subst hy; exact hx
            · exact HI.out j y (by omega) hy
          have h1 : ¬ x < 0 := by omega
          have h2 : ¬ 15 < x := by omega
          clear HI HS HP hxx HNo HSum
          go_wp2_with fail
          go_roundg (L - (I + 1))
          case measure => omega
          case rel => exact ⟨I + 1, by omega, by omega, by first | rfl | (congr 1), rfl, HN⟩
        · have HF : Hid (P (.returned (.tuple #[.bool false, .bool false])) wr) := HNo.out (fun hk => by
            have := ((kraft zs).1 hk).2.1 I x hlt' hxx
            exact hx this)
          clear HI HS HP hxx HNo HSum
          by_cases h1 : x < 0
          · go_wp2_with fail
            exact HF.out
          · have h2 : 15 < x := by omega
            go_wp2_with fail
            exact HF.out
      · obtain rfl : I = L := by omega
        have hin : inR zs := fun j x hx => HI.out j x (by have := (List.getElem?_eq_some_iff.1 hx).1; rw [hL'.out] at this; exact this) hx
        have HC : Hid (Calls Tryd.prog 74 #[.slice a I c] wr fun e w' => e = .returned (.int .i64 (partsI zs)) ∧ w' = wr) := HSum.out (by omega) hin
        have HF : Hid (∀ b q, (b = true ↔ 0 < partsI zs ∧ partsI zs ≤ 32768) → (q = decide (partsI zs = 32768)) → P (.returned (.tuple #[.bool b, .bool q])) wr) := fun b q h1 h2 => by
          rw [HP.out]
          have hk2 := kraft2 zs (by rw [hL'.out]; exact hb1) (by rw [hL'.out]; exact hb2) hin
          exact ⟨⟨b, q, rfl, by rw [h1, hk2], fun _ => h2⟩, rfl⟩
        have hz : ¬ (I : Int) < (I : Int) := by omega
        have hpl := (partsI_le zs).1
        rw [hL'.out] at hpl
        clear HI HS HP HNo HSum hin hL'
        generalize partsI zs = p at *
        by_cases h0 : 0 < p
        · have h0' : (0 : Int) < (p : Int) := by omega
          go_wp2_with (first | (go_at_call 74; (with_reducible refine HC.out.mono ?_); rintro e w1 ⟨rfl, rfl⟩))
          refine HF.out _ _ ?_ ?_
          · simp [h0]; omega
          · rw [Bool.eq_iff_iff]; simp; omega
        · have h0' : ¬ (0 : Int) < (p : Int) := by omega
          go_wp2_with (first | (go_at_call 74; (with_reducible refine HC.out.mono ?_); rintro e w1 ⟨rfl, rfl⟩))
          refine HF.out _ _ ?_ ?_
          · simp [h0]
          · rw [Bool.eq_iff_iff]; simp; omega
  · have HF : Hid (P (.returned (.tuple #[.bool false, .bool false])) w) := HNo.out (fun hk => hb (by have := ((kraft zs).1 hk).1; rw [hL'.out] at this; exact this))
    clear HS HP HNo HSum hL'
    by_cases h1 : L < 1
    · have g1 : (L : Int) < 1 := by omega
      go_enter Tryd.func59, Tryd.ntmps59
      go_wp2
      exact HF.out
    · have g1 : ¬ (L : Int) < 1 := by omega
      have g2 : (320 : Int) < (L : Int) := by omega
      go_enter Tryd.func59, Tryd.ntmps59
      go_wp2
      exact HF.out
end Go.Proofs.YtincbbnppcpfpaaDoor

namespace Go.Proofs.YtincbbnppcpfpaaDoor
open Go.RowKit
set_option linter.unusedVariables false
/-! ### The document's starts -/
theorem take_upto (l m : List By) (h : m.length ≤ l.length) (he : ∀ j, j < m.length → l[j]? = m[j]?) : l.take m.length = m := by
  apply List.ext_getElem?
  intro j
  by_cases hj : j < m.length
  · rw [List.getElem?_take, if_pos hj, he j hj]
  · rw [List.getElem?_eq_none (by rw [List.length_take]; omega), List.getElem?_eq_none (by omega)]
set_option maxHeartbeats 8000000 in
set_option maxRecDepth 100000 in
theorem sstarts_any (w : World) (va vb : Value) (l m : List By) (hl : Sl (fun _ => False) va l w) (hm : Sl (fun _ => False) vb m w) (hls : l.length ≤ 140737488351232) (hms : m.length ≤ 140737488351232) :
    Calls Tryd.prog 73 #[va, vb] w fun e w' => e = .returned (.bool (decide (m.length ≤ l.length ∧ l.take m.length = m))) ∧ Nw w w' := by
  obtain ⟨P, hP⟩ : ∃ P : Ending → World → Prop, P = fun e w' => e = .returned (.bool (decide (m.length ≤ l.length ∧ l.take m.length = m))) ∧ Nw w w' := ⟨_, rfl⟩
  rw [← hP]
  have HP : Hid (P = fun e w' => e = .returned (.bool (decide (m.length ≤ l.length ∧ l.take m.length = m))) ∧ Nw w w') := hP
  clear hP
  obtain ⟨a1, c1, rfl, hi1⟩ := hl.in' (by omega)
  obtain ⟨a2, c2, rfl, hi2⟩ := hm.in' (by omega)
  have HI1 : Hid (In a1 c1 l w) := hi1
  have HI2 : Hid (In a2 c2 m w) := hi2
  have k1 := hi1.1
  have k2 := hi1.2.1
  have k3 := hi2.1
  have k4 := hi2.2.1
  clear hl hm hi1 hi2
  by_cases hne : m.length ≤ l.length
  · have g0 : ¬ (l.length : Int) < (m.length : Int) := by omega
    go_enter Tryd.func73, Tryd.ntmps73
    go_wp2
    go_loopg [5] m.length (fun kx i wr => ∃ (I : Nat), I ≤ m.length ∧ m.length - I ≤ kx ∧ i = .int .i64 I ∧ Hid (Nw w wr ∧ ∀ j, j < I → l[j]? = m[j]?))
    case atStart => exact ⟨0, by omega, by omega, rfl, Fr.refl _ _, fun j hj => by omega⟩
    case round =>
      obtain ⟨I, hI, hkx, rfl, HI⟩ := hrel
      obtain ⟨hN, hE⟩ := HI.out
      by_cases hlt2 : I < m.length
      · have hlt : I < l.length := by omega
        obtain ⟨g1, o1, rfl, hcell1⟩ := (HI1.out.nw hN).at I hlt
        obtain ⟨g2, o2, rfl, hcell2⟩ := (HI2.out.nw hN).at I hlt2
        have hz : (I : Int) < (m.length : Int) := by omega
        by_cases heq : l[I].toNat = m[I].toNat
        · have HN : Hid (∀ V, Nw wr V → Nw w V ∧ ∀ j, j < I + 1 → l[j]? = m[j]?) := fun V hV => ⟨hN.trans hV, fun j hj => by
            by_cases hj' : j < I
            · exact hE j hj'
            · obtain rfl : j = I := by omega
              rw [List.getElem?_eq_getElem hlt, List.getElem?_eq_getElem hlt2, BitVec.eq_of_toNat_eq heq]⟩
          rw [← heq] at hcell2
          clear HI HP hN hE HI1 HI2 heq g0
          generalize l[I].toNat = x at *
          generalize l.length = L at *
          go_wp2_with fail
          go_quiet (fail)
          go_wp2_with fail
          go_roundg (m.length - (I + 1))
          case measure => omega
          case rel => exact ⟨I + 1, by omega, by omega, by first | rfl | (congr 1), HN.out _ ((Fr.refl _ _).drewN _)⟩
        · have HF : Hid (∀ V, Nw wr V → P (.returned (.bool false)) V) := fun V hV => by
            rw [HP.out]
            refine ⟨?_, hN.trans hV⟩
            rw [decide_eq_false (fun h => heq (by
              have := h.2
              have e : (l.take m.length)[I]? = m[I]? := by rw [this]
              rw [List.getElem?_take, if_pos hlt2, List.getElem?_eq_getElem hlt, List.getElem?_eq_getElem hlt2] at e
              injection e with e
              rw [e]))]
          have heq' : ¬ ((l[I].toNat : Nat) : Int) = ((m[I].toNat : Nat) : Int) := by omega
          clear HI HP hN hE HI1 HI2 heq g0
          generalize l[I].toNat = x at *
          generalize m[I].toNat = y at *
          generalize l.length = L at *
          go_wp2_with fail
          go_quiet (fail)
          go_wp2_with fail
          exact HF.out _ ((Fr.refl _ _).drewN _)
      · have hz : ¬ (I : Int) < (m.length : Int) := by omega
        have HF : Hid (P (.returned (.bool true)) wr) := by
          show P _ _
          rw [HP.out]
          refine ⟨?_, hN⟩
          rw [decide_eq_true ⟨hne, take_upto l m hne (fun j hj => hE j (by omega))⟩]
        clear HI HP hN hE HI1 HI2
        go_wp2_with fail
        exact HF.out
  · have HF : Hid (P (.returned (.bool false)) w) := by
      show P _ _
      rw [HP.out]
      refine ⟨?_, Fr.refl _ _⟩
      rw [decide_eq_false (fun h => hne h.1)]
    have g0 : (l.length : Int) < (m.length : Int) := by omega
    clear HI1 HI2 HP
    go_enter Tryd.func73, Tryd.ntmps73
    go_wp2
    exact HF.out
end Go.Proofs.YtincbbnppcpfpaaDoor

namespace Go.Proofs.YtincbbnppcpfpaaDoor
open Go.RowKit
set_option linter.unusedVariables false
/-! ### Rows of slices, and the document's Words -/
def RV : RT (Option Addr × Nat × Nat) := { enc := fun x => [.slice x.1 x.2.1 x.2.2], k := 1, T := 22, TS := 51, z := (none, 0, 0), by_ := 24 }
abbrev sv (x : Option Addr × Nat × Nat) : Value := .slice x.1 x.2.1 x.2.2
theorem rvOk : RV.Ok := by
  refine ⟨fun _ => rfl, by decide, fun x v hv => ?_, Tryd.underlying51, ?_⟩
  · simp only [RV, List.mem_cons, List.mem_nil_iff, or_false] at hv
    subst hv; rfl
  · have h : (Tryd.prog.info? 22).map (fun i => (i.zero, i.size, i.bytes)) = some (some (.slice none 0 0), 1, 24) := by kernel_rfl
    cases hq : Tryd.prog.info? 22 with
    | none => simp [hq] at h
    | some i => simp [hq] at h; exact ⟨i, _, hq, h.1, h.2.1, h.2.2, rfl⟩
theorem SwR.setV {g : Nat} {xs : List (Option Addr × Nat × Nat)} {w : World} (h : SwR RV g xs w) (i : Nat) (z : Option Addr × Nat × Nat) : SwR RV g (xs.set i z) (w.setCell ⟨g, i, none⟩ (sv z)) := by
  unfold SwR at h ⊢
  rw [row_set h i]
  congr 2
  have e : ∀ l : List (Option Addr × Nat × Nat), flatR RV l = l.map sv := by
    intro l
    induction l with
    | nil => rfl
    | cons x r ih => rw [flatR, ih]; rfl
  rw [e, e, List.map_set]
  simp
theorem SwR.cellV {g : Nat} {xs : List (Option Addr × Nat × Nat)} {w : World} (h : SwR RV g xs w) (i : Nat) (x : Option Addr × Nat × Nat) (hx : xs[i]? = some x) : w.cell? ⟨g, i, none⟩ = some (sv x) ∧ w.frozen? ⟨g, i, none⟩ = false := by
  have a := h.cell rvOk i 0 x _ hx rfl
  rw [show RV.k = 1 from rfl, Nat.mul_one, Nat.add_zero] at a
  exact a
/-- Words that are made: all shorter than n, and of n those ahead of i. -/
def wbD (ls : List Nat) (n i j : Nat) : List By := if ls.getD j 0 < n ∨ (ls.getD j 0 = n ∧ j < i) then wb ls j else []
structure WdI (w0 : World) (gW : Nat) (ls : List Nat) (n i : Nat) (vs : List (Option Addr × Nat × Nat)) (w : World) : Prop where
  row : SwR RV gW vs w
  len : vs.length = ls.length
  each : ∀ j x, vs[j]? = some x → Sl (fun k => k = gW) (sv x) (wbD ls n i j) w
  low : w0.heap.size ≤ gW
  nw : Nw w0 w
variable {w0 w : World} {gW n i : Nat} {ls : List Nat} {vs : List (Option Addr × Nat × Nat)}
theorem WdI.keep {V : World} (h : WdI w0 gW ls n i vs w) (k : Nw w V) : WdI w0 gW ls n i vs V := ⟨h.row.kept k (fun h => h), h.len, fun j x hx => (h.each j x hx).nw k, h.low, h.nw.trans k⟩
theorem WdI.congr {n' i' : Nat} (h : WdI w0 gW ls n i vs w) (e : ∀ j, j < ls.length → wbD ls n i j = wbD ls n' i' j) : WdI w0 gW ls n' i' vs w :=
  ⟨h.row, h.len, fun j x hx => by rw [← e j (by rw [← h.len]; exact (List.getElem?_eq_some_iff.1 hx).1)]; exact h.each j x hx, h.low, h.nw⟩
theorem WdI.start (w0 : World) (ls : List Nat) (hl : ls.length ≤ 320) : ∃ W, Hid ((Instr.makeSlice 51 (.int .i64 ls.length) (.int .i64 ls.length)).run Tryd.prog w0 = .ok (.slice (some ⟨w0.heap.size, 0, none⟩) ls.length ls.length) W) ∧ WdI w0 w0.heap.size ls 1 0 (List.replicate ls.length (none, 0, 0)) W := by
  obtain ⟨W, h1, ⟨xs, e1, e2, e3, e4, e5⟩, h3, h4⟩ := OwR.made rvOk w0 ls.length ls.length (Nat.le_refl _) (by simp only [RV]; omega) (by omega)
  refine ⟨W, h1, ?_, by simp, ?_, Nat.le_refl _, h3⟩
  · rw [List.length_replicate] at e1 e2 e3
    have e1 : ls.length = xs.length := by
      generalize ls.length = A at e1
      generalize xs.length = B at e1
      cases e1
      rfl
    have e2' : xs = List.replicate ls.length (none, 0, 0) := by
      rw [List.take_of_length_le (by omega)] at e2
      exact e2
    rw [← e2']
    exact e5
  · intro j x hx
    rw [List.getElem?_replicate] at hx
    split at hx
    · injection hx with hx
      subst hx
      refine .inl ⟨none, rfl, ?_⟩
      unfold wbD
      split
      · rename_i h
        exact wb_nil j (by omega)
      · rfl
    · cases hx
theorem WdI.skip (h : WdI w0 gW ls n i vs w) (hn : ls.getD i 0 ≠ n) : WdI w0 gW ls n (i + 1) vs w := h.congr fun j _ => by
  unfold wbD
  have : (ls.getD j 0 < n ∨ (ls.getD j 0 = n ∧ j < i)) ↔ (ls.getD j 0 < n ∨ (ls.getD j 0 = n ∧ j < i + 1)) := by
    constructor
    · omega
    · rintro (h | ⟨h1, h2⟩)
      · exact .inl h
      · refine .inr ⟨h1, ?_⟩
        rcases Nat.lt_or_ge j i with h3 | h3
        · exact h3
        · obtain rfl : j = i := by omega
          exact absurd h1 hn
  simp only [this]
theorem WdI.next (h : WdI w0 gW ls n ls.length vs w) : WdI w0 gW ls (n + 1) 0 vs w := h.congr fun j hj => by
  unfold wbD
  have : (ls.getD j 0 < n ∨ (ls.getD j 0 = n ∧ j < ls.length)) ↔ (ls.getD j 0 < n + 1 ∨ (ls.getD j 0 = n + 1 ∧ j < 0)) := by omega
  simp only [this]
theorem WdI.put {w1 : World} {g ln c : Nat} (h : WdI w0 gW ls n i vs w) (hi : i < ls.length) (hn : ls.getD i 0 = n) (hG : Gr w (wb ls i) g ln c w1) : WdI w0 gW ls n (i + 1) (vs.set i (some ⟨g, 0, none⟩, ln, c)) (w1.setCell ⟨gW, i, none⟩ (.slice (some ⟨g, 0, none⟩) ln c)) := by
  obtain ⟨rfl, g1, g2, g3, g4, g5⟩ := hG
  have h1 := h.keep g5
  have hlt := h.row.lt
  have hf : Fr (fun k => k = gW) w1 (w1.setCell ⟨gW, i, none⟩ (.slice (some ⟨g, 0, none⟩) (wb ls i).length c)) := (Fr.refl _ _).setCell _ _ (.inl rfl)
  refine ⟨h1.row.setV i _, by rw [List.length_set]; exact h.len, ?_, h.low, Fr.then h1.nw hf (fun k hk => .inr (by rw [hk]; exact h.low))⟩
  intro j x hx
  rw [List.getElem?_set] at hx
  by_cases hj : i = j
  · subst hj
    rw [if_pos rfl, if_pos (by rw [h.len]; exact hi)] at hx
    injection hx with hx
    subst hx
    have e : wbD ls n (i + 1) i = wb ls i := by
      unfold wbD
      rw [if_pos (.inr ⟨hn, by omega⟩)]
    rw [e]
    exact (g3.kept hf (by omega)).slb |> fun k => .inr ⟨g, by omega, k⟩
  · rw [if_neg hj] at hx
    have e : wbD ls n (i + 1) j = wbD ls n i j := by
      unfold wbD
      have : (ls.getD j 0 < n ∨ (ls.getD j 0 = n ∧ j < i + 1)) ↔ (ls.getD j 0 < n ∨ (ls.getD j 0 = n ∧ j < i)) := by omega
      simp only [this]
    rw [e]
    exact (h1.each j x hx).kept hf (fun k hk => hk)
/-- The words of a code. -/
def WdA (w0 : World) (ls : List Nat) (e : Ending) (w : World) : Prop := ∃ gW vs, e = .returned (.slice (some ⟨gW, 0, none⟩) ls.length ls.length) ∧ WdI w0 gW ls 16 0 vs w
theorem WdI.at (h : WdI w0 gW ls 16 0 vs w) (hk : Cod ls) (j : Nat) (hj : j < ls.length) : ∃ a c, w.cell? ⟨gW, j, none⟩ = some (.slice a (ls.getD j 0) c) ∧ Sl (fun _ => False) (.slice a (ls.getD j 0) c) (wb ls j) w := by
  have hx : vs[j]? = some (vs[j]'(by rw [h.len]; exact hj)) := List.getElem?_eq_getElem _
  generalize (vs[j]'(by rw [h.len]; exact hj)) = x at hx
  have h1 := (h.row.cellV j x hx).1
  have h2 := h.each j x hx
  have e : wbD ls 16 0 j = wb ls j := by
    unfold wbD
    rw [if_pos (.inl (by have := hk.each j; omega))]
  rw [e] at h2
  have hlen : x.2.1 = ls.getD j 0 := by
    rw [← wb_length (ls := ls) j]
    rcases h2 with ⟨a, e1, e2⟩ | ⟨g, _, o, c, e1, _⟩
    · injection e1 with _ e1 _
      rw [e2]; exact e1
    · injection e1 with _ e1 _
  refine ⟨x.1, x.2.2, ?_, ?_⟩
  · rw [← hlen]; exact h1
  · rw [← hlen]; exact h2.mono (fun _ h => h.elim)
end Go.Proofs.YtincbbnppcpfpaaDoor

namespace Go.Proofs.YtincbbnppcpfpaaDoor
open Go.RowKit
set_option linter.unusedVariables false
theorem wpL_make {ops : Array Oper} {rest : List Oper} {o : Oper} {a : Act} {w W : World} {v : Value} {Q : Exit → Act → World → Prop} (hg : o.guard = none) (l c : Operand) (t : TypeId) (hop : o.op = Op.makeSlice t l c) (L C : Int) (hl : a.eval l = .int .i64 L) (hc : a.eval c = .int .i64 C) (hrun : (Instr.makeSlice t (.int .i64 L) (.int .i64 C)).run Tryd.prog w = .ok v W) (hK : wpList Tryd.prog ops Q rest (a.put o.dst v) W) : wpList Tryd.prog ops Q (o :: rest) a w := by
  refine wpList_plain hg fun K hK' => ?_
  unfold Oper.wp
  simp [execOp, hop, hl, hc, hrun, Result.andThen]
  exact hK' _ _ hK
set_option maxHeartbeats 16000000 in
set_option maxRecDepth 100000 in
theorem swords_any (w : World) (v : Value) (ls : List Nat) (h : SlR RI (fun k => w.heap.size ≤ k) v (toI ls) w) (hk : Cod ls) : Calls Tryd.prog 72 #[v] w (WdA w ls) := by
  obtain ⟨P, hP⟩ : ∃ P : Ending → World → Prop, P = WdA w ls := ⟨_, rfl⟩
  rw [← hP]
  have hlen := hk.len
  have HS : Hid (∀ V, Nw w V → SlR RI (fun _ => False) v (toI ls) V) := fun V hV => (h.nw hV).mono (fun _ h => h.elim)
  obtain ⟨a, c, rfl, hc, hc2, hca⟩ := h.form
  rw [toI_length] at *
  have HF : Hid (∀ vs V, WdI w w.heap.size ls 16 0 vs V → P (.returned (.slice (some ⟨w.heap.size, 0, none⟩) ls.length ls.length)) V) := fun vs V hV => by
    rw [hP]; exact ⟨_, vs, rfl, hV⟩
  obtain ⟨W0, HMk, hW0⟩ := WdI.start w ls hlen
  have HW0 : Hid (WdI w w.heap.size ls 1 0 (List.replicate ls.length (none, 0, 0)) W0) := hW0
  have HK : Hid (Cod ls) := hk
  clear hP h hk hW0
  generalize hL : ls.length = L at *
  have hL' : Hid (ls.length = L) := hL
  clear hL
  generalize hB : w.heap.size = B at *
  go_enter Tryd.func72, Tryd.ntmps72
  go_wp2_with (first | (at_make; refine wpL_make rfl _ _ 51 rfl (L : Int) (L : Int) (by simp [Act.eval]) (by simp [Act.eval]) HMk.out ?_))
  go_loopg [4, 5, 6] 16 (fun kx code was n wr => ∃ (C S N : Nat), 1 ≤ N ∧ N ≤ 16 ∧ 16 - N ≤ kx ∧ code = .int .i64 C ∧ was = .int .i64 S ∧ n = .int .i64 N ∧ Hid (CwI ls N 0 C S) ∧ Hid (∃ vs, WdI w B ls N 0 vs wr))
  case atStart => exact ⟨0, 0, 1, by omega, by omega, by omega, rfl, rfl, rfl, CwI.start ls, ⟨_, HW0.out⟩⟩
  case round =>
    obtain ⟨C, S, N, hN1, hN2, hkx, rfl, rfl, rfl, HC, HW⟩ := hrel
    by_cases hlt : N ≤ 15
    · have hNl : (N : Int) ≤ 15 := by omega
      clear HF HMk HW0
      go_wp2_with fail
      go_loopg [4, 5, 7] L (fun kx code was i wr => ∃ (C S I : Nat), I ≤ L ∧ L - I ≤ kx ∧ code = .int .i64 C ∧ was = .int .i64 S ∧ i = .int .i64 I ∧ Hid (CwI ls N I C S) ∧ Hid (∃ vs, WdI w B ls N I vs wr))
      case atStart => exact ⟨C, S, 0, by omega, by omega, rfl, rfl, rfl, HC, HW⟩
      case round =>
        clear HC HW
        obtain ⟨C, S, I, hI, hkx, rfl, rfl, rfl, HC, HW⟩ := hrel
        by_cases hltI : I < L
        · have hiI : I < ls.length := by rw [hL'.out]; exact hltI
          obtain ⟨vs, hW⟩ := HW.out
          obtain ⟨g, o, rfl, _, hcell⟩ := ri_at (HS.out _ hW.nw) I _ (toI_at ls I hiI)
          have hz : (I : Int) < (L : Int) := by omega
          by_cases hx : ls.getD I 0 = N
          · obtain ⟨hc1, hc3⟩ := HC.out.hit hiI hx
            obtain ⟨hb1, hb2⟩ := HC.out.le HK.out hN1 hlt
            have hSN := HC.out.1
            obtain ⟨k, hk⟩ : ∃ k, k = N - S := ⟨_, rfl⟩
            have hki : (N : Int) - (S : Int) = (k : Int) := by omega
            have hk15 : k ≤ 15 := by omega
            rw [← hk] at hc1 hb2
            have hDl : cd ls I < 2 ^ N := by have := (HK.out.cd_lt I hiI (by omega)).2; rw [hx] at this; exact this
            have hpN : (2 : Nat) ^ N ≤ 2 ^ 15 := Nat.pow_le_pow_right (by decide) hlt
            have hwb : wb ls I = bl (rev N (cd ls I)) N := by unfold wb wdP; rw [if_neg (by omega), hx]
            obtain ⟨D, hD⟩ : ∃ D, D = cd ls I := ⟨_, rfl⟩
            rw [← hD] at hc1 hc3 hwb hDl
            have hsh : (C : Int) * 2 ^ k = (D : Int) := by rw [← hc1]; push_cast; rfl
            have hD2 : D < 32768 := by omega
            have HC2 : Hid (CwI ls N (I + 1) (D + 1) N) := hc3
            have HB : Hid (∀ J, J < N → rev N D / 2 ^ J % 2 = D / 2 ^ (N - 1 - J) % 2) := fun J hJ => rev_bit N D J hJ
            obtain ⟨wq, hwq⟩ : ∃ wq, wq = wr := ⟨_, rfl⟩
            have HPut : Hid (∀ g ln c V, Gr wq (bl (rev N D) N) g ln c V → ∃ vs, WdI w B ls N (I + 1) vs (V.setCell ⟨B, I, none⟩ (.slice (some ⟨g, 0, none⟩) ln c)) ∧ V.frozen? ⟨B, I, none⟩ = false ∧ ∃ u, V.cell? ⟨B, I, none⟩ = some u) := fun g ln c V hG => by
              subst hwq
              have hG2 := hG
              rw [← hwb] at hG2
              refine ⟨_, hW.put hiI hx hG2, ?_⟩
              obtain ⟨_, _, _, _, _, g5⟩ := hG
              have hv : vs[I]? = some (vs[I]'(by rw [hW.len]; exact hiI)) := List.getElem?_eq_getElem _
              have := (hW.keep g5).row.cellV I _ hv
              exact ⟨this.2, _, this.1⟩
            have HG0 : Hid (Gr wq (bl (rev N D) 0) wr.heap.size 0 0 (wr.alloc (.cells #[] 5))) := by subst hwq; exact Gr.start wq wq (Fr.refl _ _)
            have hx' : ((ls.getD I 0 : Nat) : Int) = (N : Int) := by omega
            have hsn : (S : Int) ≤ (N : Int) := by omega
            clear HC HW hW HS HK hiI hx hc1 hc3 hk hwb hD hpN hDl hwq
            generalize ls.getD I 0 = x at *
            go_wp2_with fail
            go_loopg [8, 9] N (fun kx l k wr => ∃ (J g c ln : Nat), J ≤ N ∧ N - J ≤ kx ∧ l = .slice (some ⟨g, 0, none⟩) ln c ∧ k = .int .i64 ((N : Int) - 1 - (J : Int)) ∧ Hid (Gr wq (bl (rev N D) J) g ln c wr))
            case atStart => exact ⟨0, wr.heap.size, 0, 0, by omega, by omega, rfl, by simp, HG0⟩
            case round =>
              clear HG0
              obtain ⟨J, g4, c4, ln4, hJ, hkx4, rfl, rfl, HG⟩ := hrel
              by_cases hltJ : J < N
              · have hG := HG.out
                have hs : ln4 ≤ 150000000000000 := by have := hG.1; rw [bl_length] at this; omega
                obtain ⟨K, hK⟩ : ∃ K, K = N - 1 - J := ⟨_, rfl⟩
                have hKi : (N : Int) - 1 - (J : Int) = (K : Int) := by omega
                have hK15 : K ≤ 15 := by omega
                obtain ⟨q, hq⟩ : ∃ q, q = D / 2 ^ K := ⟨_, rfl⟩
                obtain ⟨z, hz2⟩ : ∃ z, z = q % 2 := ⟨_, rfl⟩
                have hqi : (D : Int) / 2 ^ K = (q : Int) := by rw [hq]; push_cast; rfl
                have hql : q < 32768 := by rw [hq]; exact Nat.lt_of_le_of_lt (Nat.div_le_self _ _) hD2
                obtain ⟨g5, c5, W, HAP, HG5⟩ := hG.step hs (BitVec.ofNat 8 z) (z : Int) (by rw [BitVec.toNat_ofNat]; omega)
                have HN : Hid (Gr wq (bl (rev N D) (J + 1)) g5 (ln4 + 1) c5 W) := by
                  have h5 := HG5.out
                  rw [hz2, hq, hK, ← HB.out J hltJ, ← bl_succ] at h5
                  exact h5
                have hzm : (q : Int) % 2 = (z : Int) := by omega
                have hz255 : z ≤ 1 := by omega
                rw [hKi]
                clear HG hG HG5 hq hz2 hK HB HPut HC2
                go_wp2_with (first
                  | (at_builtin; refine Lib.wpList_append_run _ rfl _ _ 22 22 rfl (.slice (some ⟨g4, 0, none⟩) ln4 c4) (.slice (some ⟨_, 0, none⟩) 1 1) (by simp [Act.eval]) (by simp [Act.eval]) _ _ (HAP.out _) ?_))
                go_roundg (N - (J + 1))
                case measure => omega
                case rel => exact ⟨J + 1, g5, c5, ln4 + 1, by omega, by omega, rfl, by (congr 1; omega), HN⟩
              · obtain rfl : J = N := by omega
                have hKi : (J : Int) - 1 - (J : Int) = -1 := by omega
                rw [hKi]
                obtain ⟨vs', hW', hfz, u, hcu⟩ := HPut.out _ _ _ _ HG.out
                have HW2 : Hid (∃ vs, WdI w B ls J (I + 1) vs (wr.setCell ⟨B, I, none⟩ (.slice (some ⟨g4, 0, none⟩) ln4 c4))) := ⟨vs', hW'⟩
                clear HG HPut HB hW'
                go_wp2_with fail
                go_roundg (L - (I + 1))
                case measure => omega
                case rel => exact ⟨D + 1, J, I + 1, by omega, by omega, by first | rfl | (congr 1), rfl, by first | rfl | (congr 1), HC2, HW2⟩
          · have HC2 : Hid (CwI ls N (I + 1) C S) := HC.out.skip hiI hx
            have HW2 : Hid (∃ vs, WdI w B ls N (I + 1) vs wr) := ⟨vs, hW.skip hx⟩
            have hx' : ¬ ((ls.getD I 0 : Nat) : Int) = (N : Int) := by omega
            clear HC HW hW HS HK hiI hx
            generalize ls.getD I 0 = x at *
            go_wp2_with fail
            go_roundg (L - (I + 1))
            case measure => omega
            case rel => exact ⟨C, S, I + 1, by omega, by omega, rfl, rfl, by first | rfl | (congr 1), HC2, HW2⟩
        · obtain rfl : I = L := by omega
          have hz : ¬ (I : Int) < (I : Int) := by omega
          have HC2 : Hid (CwI ls (N + 1) 0 C S) := CwI.next (by rw [hL'.out]; exact HC.out) (by omega)
          have HW2 : Hid (∃ vs, WdI w B ls (N + 1) 0 vs wr) := by
            obtain ⟨vs, hW⟩ := HW.out
            exact ⟨vs, WdI.next (by rw [hL'.out]; exact hW)⟩
          clear HC HW HS HK
          go_wp2_with fail
          go_roundg (16 - (N + 1))
          case measure => omega
          case rel => exact ⟨C, S, N + 1, by omega, by omega, by omega, rfl, rfl, by first | rfl | (congr 1), HC2, HW2⟩
    · obtain rfl : N = 16 := by omega
      have hNl : ¬ ((16 : Nat) : Int) ≤ 15 := by omega
      obtain ⟨vs, hW⟩ := HW.out
      have HF2 : Hid (P (.returned (.slice (some ⟨B, 0, none⟩) L L)) wr) := HF.out vs wr hW
      clear HC HW HS HK hW HF
      go_wp2_with fail
      exact HF2.out
end Go.Proofs.YtincbbnppcpfpaaDoor

namespace Go.Proofs.YtincbbnppcpfpaaDoor
open Go.RowKit
set_option linter.unusedVariables false
/-- The number that the bits of a word make. -/
theorem mod_bit (x k : Nat) : x % 2 ^ (k + 1) = x % 2 ^ k + (if x / 2 ^ k % 2 = 1 then 2 ^ k else 0) := by
  rw [Nat.pow_succ, Nat.mod_mul]
  have : x / 2 ^ k % 2 < 2 := Nat.mod_lt _ (by decide)
  split
  · rename_i h; rw [h]; simp
  · rename_i h; rw [show x / 2 ^ k % 2 = 0 by omega]; simp
/-- How the word's box stands. -/
structure XbI (w : World) (sb xb : Nat) (b n : Nat) (wr : World) : Prop where
  s : wr.heap[sb]? = some (.cells #[.int .u32 0, .int .i64 0] 134)
  x : wr.heap[xb]? = some (.cells #[.int .u32 b, .int .i64 n] 134)
  ne : xb ≠ sb
  h1 : w.heap.size ≤ sb
  h2 : w.heap.size ≤ xb
  nw : Nw w wr
theorem XbI.keep {w wr V : World} {sb xb b n : Nat} (h : XbI w sb xb b n wr) (k : Nw wr V) : XbI w sb xb b n V := ⟨k.heap h.s, k.heap h.x, h.ne, h.h1, h.h2, h.nw.trans k⟩
theorem XbI.cells {w wr : World} {sb xb b n : Nat} (h : XbI w sb xb b n wr) : wr.cell? ⟨xb, 0, none⟩ = some (.int .u32 b) ∧ wr.cell? ⟨xb, 1, none⟩ = some (.int .i64 n) ∧ wr.frozen? ⟨xb, 0, none⟩ = false ∧ wr.frozen? ⟨xb, 1, none⟩ = false ∧ wr.cell? ⟨sb, 0, none⟩ = some (.int .u32 0) ∧ wr.cell? ⟨sb, 1, none⟩ = some (.int .i64 0) ∧ wr.frozen? ⟨sb, 0, none⟩ = false ∧ wr.frozen? ⟨sb, 1, none⟩ = false :=
  ⟨(row_cell h.x 0 _ rfl).1, (row_cell h.x 1 _ rfl).1, (row_cell h.x 0 _ rfl).2, (row_cell h.x 1 _ rfl).2, (row_cell h.s 0 _ rfl).1, (row_cell h.s 1 _ rfl).1, (row_cell h.s 0 _ rfl).2, (row_cell h.s 1 _ rfl).2⟩
theorem XbI.set {w wr : World} {sb xb b n : Nat} (h : XbI w sb xb b n wr) (b' : Nat) (z : Int) (hz : z = b') : XbI w sb xb b' n (wr.setCell ⟨xb, 0, none⟩ (.int .u32 z)) := by
  subst hz
  refine ⟨?_, row_set h.x 0 _, h.ne, h.h1, h.h2, h.nw.setCell _ _ (.inr h.h2)⟩
  rw [Below.heap_setCell _ _ _ _ (fun e => h.ne (by rw [e]))]
  exact h.s
end Go.Proofs.YtincbbnppcpfpaaDoor

namespace Go.Proofs.YtincbbnppcpfpaaDoor
open Go.RowKit
set_option linter.unusedVariables false
variable {ls : List Nat}
theorem lie_iff (R N i : Nat) (hi : i < ls.length) (h0 : ls.getD i 0 ≠ 0) : ((wb ls i).length ≤ (bl R N).length ∧ (bl R N).take (wb ls i).length = wb ls i) ↔ Lie ls R N i := by
  rw [wb_length, bl_length]
  constructor
  · rintro ⟨h1, h2⟩
    rw [bl_take _ _ _ h1] at h2
    exact ⟨hi, h0, h1, h2⟩
  · rintro ⟨_, _, h1, h2⟩
    exact ⟨h1, by rw [bl_take _ _ _ h1]; exact h2⟩
theorem shr_iff2 (R N i : Nat) (hi : i < ls.length) (h0 : ls.getD i 0 ≠ 0) : ((bl R N).length ≤ (wb ls i).length ∧ (wb ls i).take (bl R N).length = bl R N) ↔ Shr ls R N i := by
  rw [wb_length, bl_length]
  constructor
  · rintro ⟨h1, h2⟩
    exact ⟨hi, h0, h1, h2⟩
  · rintro ⟨_, _, h1, h2⟩
    exact ⟨h1, h2⟩
/-- What has been seen of the words. -/
def SeI (ls : List Nat) (R N I : Nat) (b : Bool) : Prop := (∀ j, j < I → ¬ Lie ls R N j) ∧ (b = true ↔ ∃ j, j < I ∧ Shr ls R N j)
theorem SeI.start (R N : Nat) : SeI ls R N 0 false := ⟨fun j hj => by omega, by simp⟩
theorem SeI.skip {R N I : Nat} {b : Bool} (h : SeI ls R N I b) (h0 : ls.getD I 0 = 0) : SeI ls R N (I + 1) b := by
  refine ⟨fun j hj hl => ?_, h.2.trans ⟨fun ⟨j, hj, hs⟩ => ⟨j, by omega, hs⟩, fun ⟨j, hj, hs⟩ => ⟨j, ?_, hs⟩⟩⟩
  · rcases Nat.lt_or_ge j I with h1 | h1
    · exact h.1 j h1 hl
    · obtain rfl : j = I := by omega
      exact hl.2.1 h0
  · rcases Nat.lt_or_ge j I with h1 | h1
    · exact h1
    · obtain rfl : j = I := by omega
      exact absurd h0 hs.2.1
theorem SeI.next {R N I : Nat} {b b' : Bool} (h : SeI ls R N I b) (hl : ¬ Lie ls R N I) (hb : b' = true ↔ (b = true ∨ Shr ls R N I)) : SeI ls R N (I + 1) b' := by
  refine ⟨fun j hj hl' => ?_, hb.trans ⟨?_, ?_⟩⟩
  · rcases Nat.lt_or_ge j I with h1 | h1
    · exact h.1 j h1 hl'
    · obtain rfl : j = I := by omega
      exact hl hl'
  · rintro (h1 | h1)
    · obtain ⟨j, hj, hs⟩ := h.2.1 h1
      exact ⟨j, by omega, hs⟩
    · exact ⟨I, by omega, h1⟩
  · rintro ⟨j, hj, hs⟩
    rcases Nat.lt_or_ge j I with h1 | h1
    · exact .inl (h.2.2 ⟨j, h1, hs⟩)
    · obtain rfl : j = I := by omega
      exact .inr hs
theorem SeI.done {R N : Nat} {b : Bool} (h : SeI ls R N ls.length b) : SRaw ls R N 0 0 (if b then 50 else 52) := by
  refine .inr ⟨rfl, rfl, fun i hi => h.1 i hi.1 hi, ?_⟩
  cases b with
  | true =>
    obtain ⟨j, _, hj⟩ := h.2.1 rfl
    exact .inl ⟨rfl, j, hj⟩
  | false =>
    refine .inr ⟨rfl, fun i hi => ?_⟩
    have := h.2.2 ⟨i, hi.1, hi⟩
    cases this
def SReadA (ls : List Nat) (R N : Nat) (w : World) (e : Ending) (w' : World) : Prop := ∃ s n h, e = .returned (.tuple #[.int .i64 (s : Nat), .int .i64 (n : Nat), .int .i64 (h : Nat)]) ∧ SRaw ls R N s n h ∧ Nw w w'
set_option maxHeartbeats 16000000 in
set_option maxRecDepth 100000 in
theorem sread_any (w : World) (v vr : Value) (R N : Nat) (h : SlR RI (fun k => w.heap.size ≤ k) v (toI ls) w) (hk : Cod ls) (hr : Sl (fun _ => False) vr (bl R N) w) (hN : N ≤ 140737488351232) : Calls Tryd.prog 56 #[v, vr] w (SReadA ls R N w) := by
  obtain ⟨P, hP⟩ : ∃ P : Ending → World → Prop, P = SReadA ls R N w := ⟨_, rfl⟩
  rw [← hP]
  have hlen := hk.len
  have HP : Hid (∀ s n h V, SRaw ls R N s n h → Nw w V → P (.returned (.tuple #[.int .i64 (s : Nat), .int .i64 (n : Nat), .int .i64 (h : Nat)])) V) := fun s n h V h1 h2 => by rw [hP]; exact ⟨s, n, h, rfl, h1, h2⟩
  have HW : Hid (Calls Tryd.prog 72 #[v] w fun e w' => ∃ gW, e = .returned (.slice (some ⟨gW, 0, none⟩) ls.length ls.length) ∧ Hid (Nw w w') ∧ Hid (∀ V j, Nw w' V → j < ls.length → ∃ a c, V.cell? ⟨gW, j, none⟩ = some (.slice a (ls.getD j 0) c) ∧ ls.getD j 0 ≤ c ∧ c < 9223372036854775808 ∧ Sl (fun _ => False) (.slice a (ls.getD j 0) c) (wb ls j) V)) := by
    refine (swords_any w _ ls h hk).mono ?_
    rintro e w' ⟨gW, vs, rfl, hW⟩
    refine ⟨gW, rfl, hW.nw, fun V j hV hj => ?_⟩
    obtain ⟨a', c', q1, q2⟩ := (hW.keep hV).at hk j hj
    obtain ⟨a2, c2, e2, hin⟩ := q2.in' (by rw [wb_length]; have := hk.each j; omega)
    rw [wb_length] at e2
    cases e2
    have i1 := hin.1
    rw [wb_length] at i1
    exact ⟨a', c', q1, i1, hin.2.1, q2⟩
  have HR : Hid (∀ V, Nw w V → Sl (fun _ => False) vr (bl R N) V) := fun V hV => hr.nw hV
  obtain ⟨a, c, rfl, hc, hc2, hca⟩ := h.form
  rw [toI_length] at *
  have HE : Hid (∀ i, ls.getD i 0 ≤ 15) := hk.each
  clear hP h hk
  generalize hL : ls.length = L at *
  have hL' : Hid (ls.length = L) := hL
  clear hL
  go_enter Tryd.func56, Tryd.ntmps56
  go_wp2_with (first | (go_at_call 72; (with_reducible refine HW.out.mono ?_); rintro e w1 ⟨gW, rfl, HN1, HC⟩))
  clear HW
  go_loopg [8, 9] L (fun kx b i wr => ∃ (I : Nat) (bb : Bool), I ≤ L ∧ L - I ≤ kx ∧ b = .bool bb ∧ i = .int .i64 I ∧ Hid (SeI ls R N I bb) ∧ Hid (Nw w1 wr))
  case atStart => exact ⟨0, false, by omega, by omega, rfl, rfl, SeI.start R N, Fr.refl _ _⟩
  case round =>
    obtain ⟨I, bb, hI, hkx, rfl, rfl, HI, HV⟩ := hrel
    by_cases hlt : I < L
    · have hiI : I < ls.length := by rw [hL'.out]; exact hlt
      obtain ⟨a', c', q1, q2, q3, q4⟩ := HC.out wr I HV.out hlt
      have hz : (I : Int) < (L : Int) := by omega
      have h15 := HE.out I
      by_cases h0 : ls.getD I 0 = 0
      · have HI2 : Hid (SeI ls R N (I + 1) bb) := HI.out.skip h0
        rw [h0] at q1
        clear HI q4 HC HR HP HE
        go_wp2_with fail
        go_roundg (L - (I + 1))
        case measure => omega
        case rel => exact ⟨I + 1, bb, by omega, by omega, rfl, by first | rfl | (congr 1), HI2, HV⟩
      · have HS1 : Hid (Calls Tryd.prog 73 #[vr, .slice a' (ls.getD I 0) c'] wr fun e w' => ∃ b : Bool, e = .returned (.bool b) ∧ (b = true ↔ Lie ls R N I) ∧ Hid (Nw wr w')) := by
          refine (sstarts_any wr _ _ (bl R N) (wb ls I) (HR.out _ (HN1.out.trans HV.out)) q4 (by rw [bl_length]; exact hN) (by rw [wb_length]; omega)).mono ?_
          rintro e w' ⟨rfl, hw⟩
          refine ⟨_, rfl, ?_, hw⟩
          rw [decide_eq_true_eq]
          exact lie_iff R N I hiI h0
        by_cases hl : Lie ls R N I
        · have HS2 : Hid (Calls Tryd.prog 73 #[vr, .slice a' (ls.getD I 0) c'] wr fun e w' => e = .returned (.bool true) ∧ w'.cell? ⟨gW, I, none⟩ = some (.slice a' (ls.getD I 0) c') ∧ Hid (Nw wr w')) := HS1.out.mono (by
            rintro e w' ⟨b, rfl, hb, hw⟩
            rw [hb.2 hl]
            exact ⟨rfl, hw.out.cell q1, hw⟩)
          have HF : Hid (∀ V, Nw wr V → P (.returned (.tuple #[.int .i64 I, .int .i64 (ls.getD I 0 : Nat), .int .i64 0])) V) := fun V hV => HP.out I _ 0 V (.inl ⟨rfl, rfl, hl⟩) ((HN1.out.trans HV.out).trans hV)
          clear HI q4 HC HR HP HE HS1 hl hr HN1 HV
          generalize ls.getD I 0 = n at *
          go_wp2_with (first | (go_at_call 73; (with_reducible refine HS2.out.mono ?_); rintro e w2 ⟨rfl, q5, H2⟩))
          go_quiet (fail)
          go_wp2_with fail
          exact HF.out _ (H2.out.trans ((Fr.refl _ _).drewN _))
        · have HS2 : Hid (Calls Tryd.prog 73 #[vr, .slice a' (ls.getD I 0) c'] wr fun e w' => e = .returned (.bool false) ∧ w'.cell? ⟨gW, I, none⟩ = some (.slice a' (ls.getD I 0) c') ∧ Hid (Nw wr w')) := HS1.out.mono (by
            rintro e w' ⟨b, rfl, hb, hw⟩
            cases b with
            | true => exact absurd (hb.1 rfl) hl
            | false => exact ⟨rfl, hw.out.cell q1, hw⟩)
          cases bb with
          | true =>
            have HI2 : Hid (SeI ls R N (I + 1) true) := HI.out.next hl (by simp)
            have HV2 : Hid (∀ V, Nw wr V → Nw w1 V) := fun V hV => HV.out.trans hV
            clear HI q4 HC HR HP HE HS1 hl hr HN1 HV
            generalize ls.getD I 0 = n at *
            go_wp2_with (first | (go_at_call 73; (with_reducible refine HS2.out.mono ?_); rintro e w2 ⟨rfl, q5, H2⟩))
            go_roundg (L - (I + 1))
            case measure => omega
            case rel => exact ⟨I + 1, true, by omega, by omega, rfl, by first | rfl | (congr 1), HI2, HV2.out _ H2.out⟩
          | false =>
            have HS3 : Hid (∀ V, Nw wr V → Calls Tryd.prog 73 #[.slice a' (ls.getD I 0) c', vr] V fun e w' => ∃ b : Bool, e = .returned (.bool b) ∧ Hid (b = true ↔ Shr ls R N I) ∧ Hid (Nw w1 w')) := fun V hV => by
              refine (sstarts_any V _ _ (wb ls I) (bl R N) (q4.nw hV) (HR.out _ ((HN1.out.trans HV.out).trans hV)) (by rw [wb_length]; omega) (by rw [bl_length]; exact hN)).mono ?_
              rintro e w' ⟨rfl, hw⟩
              refine ⟨_, rfl, ?_, (HV.out.trans hV).trans hw⟩
              show _ = true ↔ _
              rw [decide_eq_true_eq]
              exact shr_iff2 R N I hiI h0
            have HI2 : Hid (∀ b : Bool, (b = true ↔ Shr ls R N I) → SeI ls R N (I + 1) b) := fun b hb => HI.out.next hl (by simpa using hb)
            clear HI q4 HC HR HP HE HS1 hl hr HN1 HV
            generalize ls.getD I 0 = n at *
            go_wp2_with (first | (go_at_call 73; (with_reducible refine HS2.out.mono ?_); rintro e w2 ⟨rfl, q5, H2⟩) | (go_at_call 73; (with_reducible refine (HS3.out _ H2.out).mono ?_); rintro e w3 ⟨b3, rfl, H3, H4⟩))
            go_roundg (L - (I + 1))
            case measure => omega
            case rel => exact ⟨I + 1, b3, by omega, by omega, rfl, by first | rfl | (congr 1), HI2.out _ H3.out, H4⟩
    · obtain rfl : I = L := by omega
      have hz : ¬ (I : Int) < (I : Int) := by omega
      have HF : Hid (P (.returned (.tuple #[.int .i64 0, .int .i64 0, .int .i64 ((if bb then 50 else 52 : Nat) : Int)])) wr) := HP.out 0 0 _ wr (SeI.done (by rw [hL'.out]; exact HI.out)) (HN1.out.trans HV.out)
      clear HI HC HR HP HE HV
      cases bb with
      | true =>
        go_wp2_with fail
        exact HF.out
      | false =>
        go_wp2_with fail
        exact HF.out
end Go.Proofs.YtincbbnppcpfpaaDoor

namespace Go.Proofs.YtincbbnppcpfpaaDoor
open Go.RowKit
set_option linter.unusedVariables false
variable {sb ga cg most p er : Nat} {b out : List By} {og : Option Nat} {vo : Value} {w : World} {ls : List Nat}
theorem hits_or_past (hk : Cod ls) (X n : Nat) (h1 : 1 ≤ n) (h2 : n ≤ 16) : Past ls X n ∨ ∃ i, Hits ls X i := by
  induction n with
  | zero => omega
  | succ n ih =>
    by_cases h0 : n = 0
    · subst h0; exact .inl (Past.start ls X)
    · rcases ih (by omega) (by omega) with h | h
      · by_cases hc : nm ls n + ct ls n ≤ X / 2 ^ (15 - n)
        · exact .inl (h.next hc)
        · have := h.ge (by omega) (by omega)
          obtain ⟨i, hi, _⟩ := h.found (by omega) (by omega) (by omega)
          exact .inr ⟨i, hi⟩
      · exact .inr h
/-- What the document's Read comes to. -/
theorem sym_raw (hk : Cod ls) (hp : p ≤ 8 * b.length) {s n h : Nat} (hs : SRaw ls (le b / 2 ^ p) (8 * b.length - p) s n h) :
    (h = 0 ∧ symR ls (bt b p) = .ok (s, bt b (p + n)) ∧ s < ls.length ∧ n ≤ 15 ∧ p + n ≤ 8 * b.length) ∨ (h = 50 ∧ symR ls (bt b p) = .bad 4) ∨ (h = 52 ∧ symR ls (bt b p) = .bad 63) := by
  have hlt : le b / 2 ^ p < 2 ^ (8 * b.length - p) := by
    have h1 := le_lt b
    rw [pow256] at h1
    rw [Nat.div_lt_iff_lt_mul (Nat.two_pow_pos _), ← Nat.pow_add, show 8 * b.length - p + p = 8 * b.length by omega]
    exact h1
  rcases hits_or_past hk (rev 15 (le b / 2 ^ p)) 16 (by omega) (by omega) with hh | ⟨i, hi⟩
  · obtain ⟨e1, e2, e3⟩ := raw_none hk hlt hh hs
    refine .inr (.inr ⟨e3, symR_none fun i _ hi => hh.none hk i ?_⟩)
    exact hi
  · have h15 := hk.each i
    have hi' : Hits ls (rev 15 (bt b p).x) i := hi
    by_cases hN : ls.getD i 0 ≤ 8 * b.length - p
    · obtain ⟨rfl, rfl, rfl⟩ := raw_found hk hi hN hs
      refine .inl ⟨rfl, ?_, hi.1, h15, by omega⟩
      rw [symR_hit hk hi', if_neg (by rw [bt_n]; omega), bt_rest]
    · obtain ⟨rfl, rfl, rfl⟩ := raw_short hk hlt hi (by omega) hs
      refine .inr (.inl ⟨rfl, ?_⟩)
      rw [symR_hit hk hi', if_pos (by rw [bt_n]; omega)]
theorem DsI.rest (h : DsI sb ga cg b most p og vo out er w) (A : Option Addr) (c' : Nat) (ho : (A = some ⟨ga, p, none⟩ ∧ c' = cg - p) ∨ (cg = p ∧ c' = 0)) : Sl (fun _ => False) (.slice A (8 * b.length - p) c') (bl (le b / 2 ^ p) (8 * b.length - p)) w := by
  have c1 := h.c1
  have c2 := h.c2
  have pl := h.pl
  rcases ho with ⟨rfl, rfl⟩ | ⟨h1, rfl⟩
  · refine .inr ⟨ga, fun h => h, p, cg - p, by rw [bl_length], by rw [bl_length]; omega, by omega, ?_⟩
    have := h.rd.drop p
    rw [bl_drop, Nat.zero_add] at this
    exact this
  · have e : 8 * b.length - p = 0 := by omega
    rw [e]
    exact .inl ⟨_, rfl, rfl⟩
/-- What symbol answers. -/
def SyA {β : Type} (sb ga cg : Nat) (b : List By) (most p : Nat) (og : Option Nat) (vo : Value) (out : List By) (w : World) (ls : List Nat) (R : Rz (β × Bt)) (f : Nat → Rdr β) (e : Ending) (w' : World) : Prop :=
  ∃ x p' er', e = .returned (.int .i64 (x : Nat)) ∧ x ≤ 320 ∧ p ≤ p' ∧ Hid (DsI sb ga cg b most p' og vo out er' w' ∧ Fr (fun k => k = sb) w w' ∧ Cn b R er' p' (f x) ∧ (er' = 0 → x < ls.length ∧ p < p') ∧ (er' ≠ 0 → x = 0))
set_option maxHeartbeats 8000000 in
set_option maxRecDepth 100000 in
theorem hsymbol_any {β : Type} (h : DsI sb ga cg b most p og vo out er w) (v : Value) (hv : SlR RI (fun k => w.heap.size ≤ k) v (toI ls) w) (hk : er = 0 → Cod ls) (R : Rz (β × Bt)) (f : Nat → Rdr β) (hc : Cn b R er p (bindR (symR ls) f)) :
    Calls Tryd.prog 48 #[.pointer (some ⟨sb, 0, none⟩), v] w (SyA sb ga cg b most p og vo out w ls R f) := by
  obtain ⟨P, hP⟩ : ∃ P, P = SyA sb ga cg b most p og vo out w ls R f := ⟨_, rfl⟩
  rw [← hP]
  have x4 := (ds4 h).1
  by_cases he : er = 0
  · subst he
    have hk := hk rfl
    have hR : R = bindR (symR ls) f (bt b p) := by
      rcases hc with ⟨h1, _⟩ | ⟨_, h2⟩
      · exact absurd rfl h1
      · exact h2
    obtain ⟨x0, x1⟩ := And.intro (ds0 h).1 (ds1 h).1
    have hbl := h.hb
    have hpl := h.pl
    have hc2 := h.c2
    have hc1 := h.c1
    have HS : Hid (∀ V (o : Option Addr) c', Nw w V → ((o = some ⟨ga, p, none⟩ ∧ c' = cg - p) ∨ (cg = p ∧ c' = 0)) → Calls Tryd.prog 56 #[v, .slice o (8 * b.length - p) c'] V fun e w1 => ∃ s n g : Nat, e = .returned (.tuple #[.int .i64 s, .int .i64 n, .int .i64 g]) ∧ w1.cell? ⟨sb, 0, none⟩ = some (.slice (some ⟨ga, 0, none⟩) (8 * b.length : Nat) cg) ∧ w1.cell? ⟨sb, 1, none⟩ = some (.int .i64 p) ∧ w1.frozen? ⟨sb, 1, none⟩ = false ∧ (w1.cell? ⟨sb, 4, none⟩ = some (.int .i64 0) ∧ w1.frozen? ⟨sb, 4, none⟩ = false) ∧ ((g = 0 ∧ n ≤ 15 ∧ Hid (P (.returned (.int .i64 s)) (w1.setCell ⟨sb, 1, none⟩ (.int .i64 (p + n : Nat))))) ∨ (g = 50 ∧ Hid (P (.returned (.int .i64 0)) (w1.setCell ⟨sb, 4, none⟩ (.int .i64 4)))) ∨ (g = 52 ∧ Hid (P (.returned (.int .i64 0)) (w1.setCell ⟨sb, 4, none⟩ (.int .i64 63)))))) := fun V o c' hV ho => by
      refine (sread_any V v _ _ _ ((hv.nw hV).mono (fun g hg => Nat.le_trans hV.size hg)) hk ((h.nw hV).rest o c' ho) (by omega)).mono ?_
      rintro e w1 ⟨s, n, g, rfl, hs, hN⟩
      have h1 := (h.nw hV).nw hN
      refine ⟨s, n, g, rfl, (ds0 h1).1, (ds1 h1).1, (ds1 h1).2, ds4 h1, ?_⟩
      rcases sym_raw hk hpl hs with ⟨rfl, e2, e3, e4, e5⟩ | ⟨rfl, e2⟩ | ⟨rfl, e2⟩
      · refine .inl ⟨rfl, e4, ?_⟩
        obtain ⟨k1, k2⟩ := h1.setP (p + n) e5 _ rfl
        show P _ _
        rw [hP]
        have hlen := hk.len
        have hd := Dec.sym ls _ _ _ e2
        rw [bt_n, bt_n] at hd
        refine ⟨s, p + n, 0, rfl, by omega, by omega, k1, (hV.any.trans hN.any).trans k2, .inr ⟨rfl, ?_⟩, fun _ => ⟨e3, by omega⟩, fun e => absurd rfl e⟩
        rw [hR, bindR_eq e2]
      · refine .inr (.inl ⟨rfl, ?_⟩)
        obtain ⟨k1, k2⟩ := h1.setE 4 4 rfl
        show P _ _
        rw [hP]
        exact ⟨0, p, 4, rfl, by omega, by omega, k1, (hV.any.trans hN.any).trans k2, .inl ⟨by decide, by rw [hR, bindR_bad e2]⟩, fun e => by omega, fun _ => rfl⟩
      · refine .inr (.inr ⟨rfl, ?_⟩)
        obtain ⟨k1, k2⟩ := h1.setE 63 63 rfl
        show P _ _
        rw [hP]
        exact ⟨0, p, 63, rfl, by omega, by omega, k1, (hV.any.trans hN.any).trans k2, .inl ⟨by decide, by rw [hR, bindR_bad e2]⟩, fun e => by omega, fun _ => rfl⟩
    obtain ⟨a, c, rfl, hcc, hcc2, hca⟩ := hv.form
    rw [toI_length] at *
    obtain ⟨N, hN⟩ : ∃ N, N = 8 * b.length := ⟨_, rfl⟩
    rw [← hN] at x0 hc1 hpl HS
    have hNb : N ≤ 8796093022208 := by omega
    have hN0 : Nw w w := Fr.refl _ _
    clear hP h hc hR hN hv hk hbl hca
    generalize ls.length = LS at *
    by_cases hcp : cg ≤ p
    all_goals (
      go_enter Tryd.func48, Tryd.ntmps48
      go_upto_region 3 with fail
      go_cut [5, 6, 7] (fun s n g wx => ∃ s' n' g' : Nat, s = .int .i64 s' ∧ n = .int .i64 n' ∧ g = .int .i64 g' ∧ wx.cell? ⟨sb, 1, none⟩ = some (.int .i64 p) ∧ wx.frozen? ⟨sb, 1, none⟩ = false ∧ (wx.cell? ⟨sb, 4, none⟩ = some (.int .i64 0) ∧ wx.frozen? ⟨sb, 4, none⟩ = false) ∧ ((g' = 0 ∧ n' ≤ 15 ∧ Hid (P (.returned (.int .i64 s')) (wx.setCell ⟨sb, 1, none⟩ (.int .i64 (p + n' : Nat))))) ∨ (g' = 50 ∧ Hid (P (.returned (.int .i64 0)) (wx.setCell ⟨sb, 4, none⟩ (.int .i64 4)))) ∨ (g' = 52 ∧ Hid (P (.returned (.int .i64 0)) (wx.setCell ⟨sb, 4, none⟩ (.int .i64 63))))))
      case first =>
        have t0 : w.drew.cell? ⟨sb, 0, none⟩ = some (.slice (some ⟨ga, 0, none⟩) N cg) := x0
        have t1 : w.drew.cell? ⟨sb, 1, none⟩ = some (.int .i64 p) := x1
        go_region_held3 (fun W => W.cell? ⟨sb, 0, none⟩ = some (.slice (some ⟨ga, 0, none⟩) N cg) ∧ W.cell? ⟨sb, 1, none⟩ = some (.int .i64 p))
          (first | assumption | (refine ⟨?_, ?_⟩ <;> assumption))
          (first
          | (go_at_call 56; with_reducible refine (HS.out _ _ _ ?_ ?_).mono ?_; (first | exact (Fr.refl _ _).drew | exact Fr.refl _ _); (first | exact .inl ⟨by rw [if_neg (by omega)], rfl⟩ | exact .inr ⟨by omega, rfl⟩); rintro e w1 ⟨s, n, g, rfl, z0, z1, z2, z3, HH⟩))
        all_goals go_wp2_with fail
        all_goals go_meet
        all_goals exact ⟨s, n, g, rfl, rfl, rfl, z1, z2, z3, HH⟩
      case rest =>
        obtain ⟨s', n', g', rfl, rfl, rfl, z1, z2, ⟨z3, z4⟩, HH⟩ := hcut
        clear HS x0 x1 x4
        rcases HH with ⟨rfl, hn', HH⟩ | ⟨rfl, HH⟩ | ⟨rfl, HH⟩
        · have hpn : (p : Int) + (n' : Int) = ((p + n' : Nat) : Int) := by omega
          generalize hPN : p + n' = PN at *
          have : PN ≤ 8796093022300 := by omega
          clear hPN
          go_wp2_with fail
          exact HH.out
        · go_wp2_with fail
          exact HH.out
        · go_wp2_with fail
          exact HH.out)
  · have HF : Hid (P (.returned (.int .i64 0)) w) := by
      show P _ _
      rw [hP]
      refine ⟨0, p, er, rfl, by omega, Nat.le_refl _, h, Fr.refl _ _, .inl ⟨he, ?_⟩, fun e => absurd e he, fun _ => rfl⟩
      rcases hc with ⟨_, h1⟩ | ⟨h1, _⟩
      · exact h1
      · exact absurd h1 he
    have hz := ne0 he
    obtain ⟨a, c, rfl, _⟩ := hv.form
    clear hP h hc hv
    go_enter Tryd.func48, Tryd.ntmps48
    go_wp2_with fail
    exact HF.out
end Go.Proofs.YtincbbnppcpfpaaDoor

namespace Go.Proofs.YtincbbnppcpfpaaDoor
open Go.RowKit
set_option linter.unusedVariables false
/-- The document's Length, as it goes. -/
def lfb : Nat → Nat × Nat
  | 0 => (3, 0)
  | n + 1 => if 7 ≤ n ∧ (n - 7) % 4 = 0 then ((lfb n).1 + 2 ^ (lfb n).2, (n - 7) / 4 + 1) else ((lfb n).1 + 2 ^ (lfb n).2, (lfb n).2)
theorem lfb_le : ∀ n, n ≤ 28 → (lfb n).1 ≤ 300 ∧ (lfb n).2 ≤ 6 := by decide
theorem lfb_fur : ∀ n, n < 28 → (n < 4 → lfb n = (3 + n, 0)) ∧ (¬ n < 4 → lfb n = (3 + (4 + n % 4) * 2 ^ (n / 4 - 1), n / 4 - 1)) := by decide
def dfb : Nat → Nat × Nat
  | 0 => (1, 0)
  | n + 1 => ((dfb n).1 + 2 ^ (dfb n).2, if 3 ≤ n ∧ n % 2 = 1 then (dfb n).2 + 1 else (dfb n).2)
theorem dfb_le : ∀ n, n ≤ 30 → (dfb n).1 ≤ 32769 ∧ (dfb n).2 ≤ 14 := by decide
theorem dfb_fur : ∀ n, n < 30 → (n < 2 → dfb n = (1 + n, 0)) ∧ (¬ n < 2 → dfb n = (1 + (2 + n % 2) * 2 ^ (n / 2 - 1), n / 2 - 1)) := by decide
theorem takeR_zero : takeR 0 = retR 0 := by
  funext t
  simp [takeR, retR, Nat.mod_one]
theorem bindR_ret {α β : Type} (a : α) (f : α → Rdr β) : bindR (retR a) f = f a := rfl
theorem bindR_assoc {α β γ : Type} (f : Rdr α) (g : α → Rdr β) (k : β → Rdr γ) : bindR (bindR f g) k = bindR f fun a => bindR (g a) k := by
  funext t
  simp only [bindR]
  cases f t with
  | bad e => rfl
  | ok r => rfl
def lfs (y : Nat) : Nat × Nat := if y = 285 then (258, 0) else lfb (y - 257)
theorem lenR_eq (y : Nat) (h1 : 257 ≤ y) (h2 : y ≤ 285) : lenR y = bindR (takeR (lfs y).2) fun v => retR ((lfs y).1 + v) := by
  unfold lenR lfs
  by_cases h : y = 285
  · rw [if_pos h, if_pos h, takeR_zero, bindR_ret]
  · rw [if_neg h, if_neg h]
    obtain ⟨k1, k2⟩ := lfb_fur (y - 257) (by omega)
    unfold furR
    by_cases h4 : y - 257 < 4
    · rw [if_pos h4, k1 h4, takeR_zero, bindR_ret, bindR_ret]
      simp only [Nat.add_zero]
    · rw [if_neg h4, k2 h4, bindR_assoc]
      simp only [bindR_ret]
      congr 1; funext v; congr 1; omega
theorem lfs_le (y : Nat) (h1 : 257 ≤ y) (h2 : y ≤ 285) : (lfs y).1 ≤ 300 ∧ (lfs y).2 ≤ 6 := by
  unfold lfs
  by_cases h : y = 285
  · rw [if_pos h]; exact ⟨by decide, by decide⟩
  · rw [if_neg h]; exact lfb_le _ (by omega)
theorem distR_eq (lb : List Nat) : distR lb = bindR (symR lb) fun d => if 29 < d then failR 63 else bindR (takeR (dfb d).2) fun v => retR ((dfb d).1 + v) := by
  unfold distR
  congr 1
  funext d
  by_cases h : 29 < d
  · rw [if_pos h, if_pos h]
  · rw [if_neg h, if_neg h]
    obtain ⟨k1, k2⟩ := dfb_fur d (by omega)
    unfold furR
    by_cases h4 : d < 2
    · rw [if_pos h4, k1 h4, takeR_zero, bindR_ret, bindR_ret]
      simp only [Nat.add_zero]
    · rw [if_neg h4, k2 h4, bindR_assoc]
      simp only [bindR_ret]
      congr 1; funext v; congr 1; omega
set_option maxHeartbeats 8000000 in
set_option maxRecDepth 100000 in
theorem glength_any (w : World) (y : Nat) (h1 : 257 ≤ y) (h2 : y ≤ 285) : Calls Tryd.prog 57 #[.int .i64 y] w fun e w' => e = .returned (.tuple #[.int .i64 (lfs y).1, .int .i64 (lfs y).2]) ∧ w = w' := by
  obtain ⟨P, hP⟩ : ∃ P : Ending → World → Prop, P = fun e w' => e = .returned (.tuple #[.int .i64 (lfs y).1, .int .i64 (lfs y).2]) ∧ w = w' := ⟨_, rfl⟩
  rw [← hP]
  by_cases h : y = 285
  · subst h
    have HF : Hid (P (.returned (.tuple #[.int .i64 258, .int .i64 0])) w) := by show P _ _; rw [hP]; exact ⟨rfl, rfl⟩
    clear hP
    go_enter Tryd.func57, Tryd.ntmps57
    go_wp2
    exact HF.out
  · have HF : Hid (P (.returned (.tuple #[.int .i64 (lfb (y - 257)).1, .int .i64 (lfb (y - 257)).2])) w) := by
      show P _ _
      rw [hP, lfs, if_neg h]; exact ⟨rfl, rfl⟩
    have hz : ((y : Int) == 285) = false := by simp only [beq_eq_false_iff_ne, ne_eq]; omega
    clear hP h
    go_enter Tryd.func57, Tryd.ntmps57
    go_wp2_with fail
    go_loopg [4, 5, 6] y (fun kx f t k wr => ∃ K : Nat, 257 ≤ K ∧ K ≤ y ∧ y - K ≤ kx ∧ f = .int .i64 (lfb (K - 257)).1 ∧ t = .int .i64 (lfb (K - 257)).2 ∧ k = .int .i64 K ∧ wr = w)
    case atStart => exact ⟨257, by omega, by omega, by omega, rfl, rfl, rfl, rfl⟩
    case round =>
      obtain ⟨K, hK, hKy, hkx, rfl, rfl, rfl, rfl⟩ := hrel
      by_cases hlt : K < y
      · have hz1 : (K : Int) < (y : Int) := by omega
        obtain ⟨l1, l2⟩ := lfb_le (K - 257) (by omega)
        have hst : lfb (K + 1 - 257) = if 264 ≤ K ∧ (K - 264) % 4 = 0 then ((lfb (K - 257)).1 + 2 ^ (lfb (K - 257)).2, (K - 264) / 4 + 1) else ((lfb (K - 257)).1 + 2 ^ (lfb (K - 257)).2, (lfb (K - 257)).2) := by
          rw [show K + 1 - 257 = (K - 257) + 1 by omega, lfb]
          by_cases hc : 264 ≤ K ∧ (K - 264) % 4 = 0
          · rw [if_pos hc, if_pos ⟨by omega, by omega⟩]
            congr 1 <;> omega
          · rw [if_neg hc, if_neg (by omega)]
        obtain ⟨f, hf⟩ : ∃ f, f = (lfb (K - 257)).1 := ⟨_, rfl⟩
        obtain ⟨t, ht⟩ : ∃ t, t = (lfb (K - 257)).2 := ⟨_, rfl⟩
        rw [← hf] at l1
        rw [← ht] at l2
        rw [← hf, ← ht] at hst ⊢
        obtain ⟨u, hu⟩ : ∃ u, u = 2 ^ t := ⟨_, rfl⟩
        have hul : u ≤ 64 := by rw [hu]; exact Nat.pow_le_pow_right (by decide) l2
        have hui : (2 : Int) ^ t = (u : Int) := by rw [hu]; push_cast; rfl
        have hui' : (1 : Int) * 2 ^ t = (u : Int) := by rw [Int.one_mul]; exact hui
        obtain ⟨s, hs⟩ : ∃ s, s = f + u := ⟨_, rfl⟩
        have hsi : (f : Int) + (u : Int) = (s : Int) := by omega
        rw [← hu, ← hs] at hst
        have hsl : s ≤ 400 := by omega
        have HS : Hid (lfb (K + 1 - 257) = if 264 ≤ K ∧ (K - 264) % 4 = 0 then (s, (K - 264) / 4 + 1) else (s, t)) := hst
        clear hst hf ht hs hu HF
        by_cases hc1 : 264 ≤ K
        · obtain ⟨j, hj⟩ : ∃ j, j = K - 264 := ⟨_, rfl⟩
          have hji : (K : Int) - 264 = (j : Int) := by omega
          have hg : (264 : Int) ≤ (K : Int) := by omega
          obtain ⟨r, hr⟩ : ∃ r, r = j % 4 := ⟨_, rfl⟩
          have hri : (j : Int).tmod 4 = (r : Int) := by rw [Int.tmod_eq_emod_of_nonneg (by omega)]; omega
          obtain ⟨q, hq⟩ : ∃ q, q = j / 4 := ⟨_, rfl⟩
          have hqi : (j : Int).tdiv 4 = (q : Int) := by rw [Int.tdiv_eq_ediv_of_nonneg (by omega)]; omega
          have hqi2 : (j : Int) / 4 = (q : Int) := by omega
          have hjl : j ≤ 30 := by omega
          by_cases hr0 : r = 0
          · have HE : Hid (lfb (K + 1 - 257) = (s, q + 1)) := by show _ = _; rw [HS.out, if_pos ⟨hc1, by omega⟩, hq, hj]
            have hr1 : ((r : Int) == 0) = true := by rw [hr0]; rfl
            clear HS hr hq hj hr0
            go_wp2_with fail
            go_roundg (y - (K + 1))
            case measure => omega
            case rel => exact ⟨K + 1, by omega, by omega, by omega, by rw [HE.out], by rw [HE.out]; first | rfl | (congr 1), by first | rfl | (congr 1), rfl⟩
          · have HE : Hid (lfb (K + 1 - 257) = (s, t)) := by show _ = _; rw [HS.out, if_neg (by omega)]
            have hr1 := ne0' hr0
            clear HS hr hq hj hr0
            go_wp2_with fail
            go_roundg (y - (K + 1))
            case measure => omega
            case rel => exact ⟨K + 1, by omega, by omega, by omega, by rw [HE.out], by rw [HE.out], by first | rfl | (congr 1), rfl⟩
        · have HE : Hid (lfb (K + 1 - 257) = (s, t)) := by show _ = _; rw [HS.out, if_neg (by omega)]
          have hg : ¬ (264 : Int) ≤ (K : Int) := by omega
          clear HS
          go_wp2_with fail
          go_roundg (y - (K + 1))
          case measure => omega
          case rel => exact ⟨K + 1, by omega, by omega, by omega, by rw [HE.out], by rw [HE.out], by first | rfl | (congr 1), rfl⟩
      · obtain rfl : K = y := by omega
        generalize (lfb (K - 257)).1 = f at *
        generalize (lfb (K - 257)).2 = t at *
        go_wp2_with fail
        exact HF.out
set_option maxHeartbeats 8000000 in
set_option maxRecDepth 100000 in
theorem gdistance_any (w : World) (y : Nat) (h2 : y ≤ 29) : Calls Tryd.prog 58 #[.int .i64 y] w fun e w' => e = .returned (.tuple #[.int .i64 (dfb y).1, .int .i64 (dfb y).2]) ∧ w = w' := by
  obtain ⟨P, hP⟩ : ∃ P : Ending → World → Prop, P = fun e w' => e = .returned (.tuple #[.int .i64 (dfb y).1, .int .i64 (dfb y).2]) ∧ w = w' := ⟨_, rfl⟩
  rw [← hP]
  have HF : Hid (P (.returned (.tuple #[.int .i64 (dfb y).1, .int .i64 (dfb y).2])) w) := by show P _ _; rw [hP]; exact ⟨rfl, rfl⟩
  clear hP
  go_enter Tryd.func58, Tryd.ntmps58
  go_wp2_with fail
  go_loopg [4, 5, 6] y (fun kx f t k wr => ∃ K : Nat, K ≤ y ∧ y - K ≤ kx ∧ f = .int .i64 (dfb K).1 ∧ t = .int .i64 (dfb K).2 ∧ k = .int .i64 K ∧ wr = w)
  case atStart => exact ⟨0, by omega, by omega, rfl, rfl, rfl, rfl⟩
  case round =>
    obtain ⟨K, hKy, hkx, rfl, rfl, rfl, rfl⟩ := hrel
    by_cases hlt : K < y
    · have hz1 : (K : Int) < (y : Int) := by omega
      obtain ⟨l1, l2⟩ := dfb_le K (by omega)
      have hst : dfb (K + 1) = ((dfb K).1 + 2 ^ (dfb K).2, if 3 ≤ K ∧ K % 2 = 1 then (dfb K).2 + 1 else (dfb K).2) := rfl
      obtain ⟨f, hf⟩ : ∃ f, f = (dfb K).1 := ⟨_, rfl⟩
      obtain ⟨t, ht⟩ : ∃ t, t = (dfb K).2 := ⟨_, rfl⟩
      rw [← hf] at l1
      rw [← ht] at l2
      rw [← hf, ← ht] at hst ⊢
      obtain ⟨u, hu⟩ : ∃ u, u = 2 ^ t := ⟨_, rfl⟩
      have hul : u ≤ 16384 := by rw [hu]; exact Nat.pow_le_pow_right (by decide) l2
      have hui : (2 : Int) ^ t = (u : Int) := by rw [hu]; push_cast; rfl
      have hui' : (1 : Int) * 2 ^ t = (u : Int) := by rw [Int.one_mul]; exact hui
      obtain ⟨s, hs⟩ : ∃ s, s = f + u := ⟨_, rfl⟩
      have hsi : (f : Int) + (u : Int) = (s : Int) := by omega
      rw [← hu, ← hs] at hst
      have hsl : s ≤ 65536 := by omega
      have HS : Hid (dfb (K + 1) = (s, if 3 ≤ K ∧ K % 2 = 1 then t + 1 else t)) := hst
      clear hst hf ht hs hu HF
      by_cases hc1 : 3 ≤ K
      · have hg : (3 : Int) ≤ (K : Int) := by omega
        obtain ⟨r, hr⟩ : ∃ r, r = K % 2 := ⟨_, rfl⟩
        have hri : (K : Int).tmod 2 = (r : Int) := by rw [Int.tmod_eq_emod_of_nonneg (by omega)]; omega
        by_cases hr0 : r = 1
        · have HE : Hid (dfb (K + 1) = (s, t + 1)) := by show _ = _; rw [HS.out, if_pos ⟨hc1, by omega⟩]
          have hr1 : ((r : Int) == 1) = true := by rw [hr0]; rfl
          clear HS hr hr0
          go_wp2_with fail
          go_roundg (y - (K + 1))
          case measure => omega
          case rel => exact ⟨K + 1, by omega, by omega, by rw [HE.out], by rw [HE.out]; first | rfl | (congr 1), by first | rfl | (congr 1), rfl⟩
        · have HE : Hid (dfb (K + 1) = (s, t)) := by show _ = _; rw [HS.out, if_neg (by omega)]
          have hr1 : ((r : Int) == 1) = false := by simp only [beq_eq_false_iff_ne, ne_eq]; omega
          clear HS hr hr0
          go_wp2_with fail
          go_roundg (y - (K + 1))
          case measure => omega
          case rel => exact ⟨K + 1, by omega, by omega, by rw [HE.out], by rw [HE.out], by first | rfl | (congr 1), rfl⟩
      · have HE : Hid (dfb (K + 1) = (s, t)) := by show _ = _; rw [HS.out, if_neg (by omega)]
        have hg : ¬ (3 : Int) ≤ (K : Int) := by omega
        clear HS
        go_wp2_with fail
        go_roundg (y - (K + 1))
        case measure => omega
        case rel => exact ⟨K + 1, by omega, by omega, by rw [HE.out], by rw [HE.out], by first | rfl | (congr 1), rfl⟩
    · obtain rfl : K = y := by omega
      generalize (dfb K).1 = f at *
      generalize (dfb K).2 = t at *
      go_wp2_with fail
      exact HF.out
end Go.Proofs.YtincbbnppcpfpaaDoor
