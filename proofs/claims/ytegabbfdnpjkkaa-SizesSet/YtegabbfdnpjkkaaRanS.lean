import Derived.Test.YtegabbfdnpjkkaaRanR
namespace Go.Proofs.Ytegabbfdnpjkkaa
open Go.RowKit
set_option linter.unusedVariables false
set_option linter.unusedSimpArgs false

/-- append of one range, at the list of a plain region's operations. -/
theorem wpList_app {ops : Array Oper} {rest : List Oper} {o : Oper} {a : Act} {w : World} {Q : Exit → Act → World → Prop}
    (hg : o.guard = none) (d x : Operand) (hop : o.op = Op.call { callee := Callee.builtin Builtin.append, args := #[d, x], argTypes := #[45, 45] })
    (s : Value) (og : Option Nat) (V0 : List Rg) (y : Rg) (gb : Nat) (hd : a.eval d = s) (hx : a.eval x = .slice (some ⟨gb, 0, none⟩) 1 1) (hs : SVal s og V0 w) (hb : RowB gb [y] w) (hdd : og ≠ some gb) (hbig : (V0.length + 1) * 16 ≤ 140737488355328)
    (hK : ∀ W' b c, Apped og w W' (.slice b (V0.length + 1) c) (V0 ++ [y]) → wpList Try.prog ops Q rest (a.put o.dst (.slice b (V0.length + 1) c)) W') :
    wpList Try.prog ops Q (o :: rest) a w := by
  obtain ⟨W', b, c, hr, hA⟩ := app_step w s og V0 y gb hs hb hdd hbig
  exact Lib.wpList_append_run w hg d x 45 45 hop s _ hd hx _ _ (hr _) (hK W' b c hA)
theorem RowB.newAt (w : World) (y : Rg) (b : Nat) (hb : w.heap.size = b) : RowB b [y] (w.alloc (.cells #[.int .i64 y.1, .int .i64 y.2] 49)) := by
  subst hb; exact RowB.new w [y]
/-- What an append to a new slice leaves. -/
theorem Apped.newer {B : Nat} {og : Option Nat} {w0 W W' : World} {v' : Value} {L : List Rg} (h : Apped og W W' v' L) (hN : Nw w0 W) (hB : w0.heap.size ≤ B) (hBW : B < W.heap.size) (hog : ∀ g, og = some g → B < g) :
    Nw w0 W' ∧ (∃ og', SVal v' og' L W' ∧ ∀ g, og' = some g → B < g) ∧ ∀ k, k < W.heap.size → og ≠ some k → W'.heap[k]? = W.heap[k]? := by
  obtain ⟨og', h1, h2, h3⟩ := h
  refine ⟨Fr.then hN h2 (fun k hk => .inr (by have := hog k hk; omega)), ⟨og', h1, ?_⟩, fun k hk hne => h2.block k hk hne⟩
  intro g hg
  rcases h3 with rfl | ⟨g', rfl, hg'⟩
  · exact hog g hg
  · injection hg with hg; omega

theorem part_ex (L : List Rg) (p : Rg → Bool) (hm : ∀ a b (ha : a < L.length) (hb : b < L.length), a ≤ b → p L[a] = true → p L[b] = true) : ∃ r, Part L p r := by
  have key : ∀ n, n ≤ L.length → ∃ r, r ≤ n ∧ (∀ t (h : t < L.length), t < r → p L[t] = false) ∧ ∀ t (h : t < L.length), r ≤ t → t < n → p L[t] = true := by
    intro n
    induction n with
    | zero => intro _; exact ⟨0, Nat.le_refl _, fun t h ht => by omega, fun t h _ ht => by omega⟩
    | succ n ih =>
      intro hn
      obtain ⟨r, h1, h2, h3⟩ := ih (by omega)
      by_cases hrn : r < n
      · refine ⟨r, by omega, h2, fun t h ha hb => ?_⟩
        by_cases htn : t < n
        · exact h3 t h ha htn
        · obtain rfl : t = n := by omega
          exact hm r t (by omega) h (by omega) (h3 r (by omega) (Nat.le_refl _) hrn)
      · obtain rfl : r = n := by omega
        cases hp : p (L[r]'(by omega)) with
        | false => exact ⟨r + 1, Nat.le_refl _, fun t h ht => by
            by_cases htr : t < r
            · exact h2 t h htr
            · obtain rfl : t = r := by omega
              exact hp, fun t h ha hb => by omega⟩
        | true => exact ⟨r, by omega, h2, fun t h ha hb => by
            obtain rfl : t = r := by omega
            exact hp⟩
  obtain ⟨r, h1, h2, h3⟩ := key L.length (Nat.le_refl _)
  exact ⟨r, h1, h2, fun t h ht => h3 t h ht h⟩
theorem part_one {L : List Rg} {p : Rg → Bool} {r s : Nat} (h : Part L p r) (k : Part L p s) : r = s := by
  rcases Nat.lt_trichotomy r s with hlt | he | hgt
  · have hr : r < L.length := by have := k.1; omega
    have a := h.2.2 r hr (Nat.le_refl _)
    have b := k.2.1 r hr hlt
    rw [a] at b; cases b
  · exact he
  · have hr : s < L.length := by have := h.1; omega
    have a := k.2.2 s hr (Nat.le_refl _)
    have b := h.2.1 s hr hgt
    rw [a] at b; cases b

def gfin (x : Rg) (A : Int) (GS : List Rg) : List Rg := if A < x.2 then GS ++ [(A, x.2)] else GS
def gp (x : Rg) : Int → List Rg → List Rg → List Rg
  | A, [], GS => gfin x A GS
  | A, y :: r, GS => if x.2 ≤ y.1 then gfin x A GS else gp x y.2 r (if A < y.1 then GS ++ [(A, y.1)] else GS)

theorem gapA {w wr W W' : World} {x y : Rg} {GS : List Rg} {b : Option Addr} {c : Nat} {og' : Option Nat} (hA : Apped og' W W' (.slice b (GS.length + 1) c) (GS ++ [y])) (hW : Nw wr W) (hN : Nw w wr) (hog : ∀ g', og' = some g' → w.heap.size < g') (hB : BoxB w.heap.size x wr) :
    ∃ og'', SVal (.slice b (GS ++ [y]).length c) og'' (GS ++ [y]) W' ∧ (∀ g', og'' = some g' → w.heap.size < g') ∧ Nw w W' ∧ BoxB w.heap.size x W' := by
  have hb1 : w.heap.size < wr.heap.size := (Array.getElem?_eq_some_iff.1 hB).1
  have hb2 : w.heap.size < W.heap.size := Nat.lt_of_lt_of_le hb1 hW.size
  obtain ⟨h1, ⟨og'', h2, h3⟩, h4⟩ := hA.newer (B := w.heap.size) (hN.trans hW) (Nat.le_refl _) hb2 hog
  refine ⟨og'', by rw [List.length_append]; exact h2, h3, h1, ?_⟩
  exact (h4 w.heap.size hb2 (fun e => by have := hog _ e; omega)).trans (hB.nw hW)
theorem ybox {wr W W' : World} {y : Rg} {v' s : Value} {L GS : List Rg} {og1 : Option Nat} (hA : Apped og1 W W' v' L) (hW : BoxB wr.heap.size y W) (hS : SVal s og1 GS wr) : W'.cell? ⟨wr.heap.size, 1, none⟩ = some (.int .i64 y.2) := by
  obtain ⟨og', h1, h2, h3⟩ := hA
  have hb : BoxB wr.heap.size y W' := (h2.block wr.heap.size (Array.getElem?_eq_some_iff.1 hW).1 (fun e => by have := hS.lt _ e; omega)).trans hW
  exact hb.cell.2.1
theorem gp_end (x : Rg) (A : Int) (GS : List Rg) (M : List Rg) (h : M = [] ∨ ∃ y r, M = y :: r ∧ x.2 ≤ y.1) : gp x A M GS = gfin x A GS := by
  rcases h with rfl | ⟨y, r, rfl, hy⟩
  · rfl
  · simp only [gp, if_pos hy]
theorem gp_step (x : Rg) (A : Int) (GS : List Rg) (L : List Rg) (n : Nat) (hn : n < L.length) (h : ¬ x.2 ≤ L[n].1) : gp x A (L.drop n) GS = gp x L[n].2 (L.drop (n + 1)) (if A < L[n].1 then GS ++ [(A, L[n].1)] else GS) := by
  rw [List.drop_eq_getElem_cons hn]
  simp only [gp, if_neg h]

set_option maxHeartbeats 2000000 in
set_option maxRecDepth 100000 in
theorem gaps_bad (br : Nat) (x : Rg) (w : World) (hx : cb x = false) :
    Calls Try.prog 27 #[.pointer (some ⟨br, 0, none⟩), rv x] w fun e w' => e = .returned (.slice none 0 0) ∧ Nw w w' := by
  have HN0 : Hid (Nw w (w.alloc (.cells #[.int .i64 x.1, .int .i64 x.2] 49))) := (Fr.refl _ _).alloc _
  have HC := fun w => canBe_any x w
  rw [hx] at HC
  clear hx
  go_enter Try.func27, Try.ntmps27
  go_wp2_with (go_at_call 37; refine (HC _).mono ?_; rintro e w' ⟨rfl, hN⟩)
  go_ret
  exact ⟨rfl, Nw.trans HN0.out hN⟩

def GapRes (L : List Rg) (x : Rg) (w w' : World) (e : Ending) : Prop := ∃ k b c RES, Part L (fun y => decide (x.1 < y.2)) k ∧ RES = gp x x.1 (L.drop k) [] ∧ e = .returned (.slice b RES.length c) ∧ NewS w w' (.slice b RES.length c) RES

set_option maxHeartbeats 8000000 in
set_option maxRecDepth 100000 in
theorem gaps_do (br : Nat) (og : Option Nat) (L : List Rg) (x : Rg) (w : World) (h : RngB br og L w) (hL : L.length ≤ 65536) (hr : Rises L) (hx : cb x = true) :
    Calls Try.prog 27 #[.pointer (some ⟨br, 0, none⟩), rv x] w fun e w' => GapRes L x w w' e := by
  have HN0 : Hid (Nw w (w.alloc (.cells #[.int .i64 x.1, .int .i64 x.2] 49))) := (Fr.refl _ _).alloc _
  have HC := fun w => canBe_any x w
  rw [hx] at HC
  have HB : Hid _ := BoxB.new w x
  have H0 : Hid _ := h
  have HR : Hid _ := hr
  clear hx h hr
  go_enter Try.func27, Try.ntmps27
  go_wp2_with (go_at_call 37; refine (HC _).mono ?_; rintro e w1 ⟨rfl, hN1⟩; obtain ⟨q0, q1, _⟩ := (BoxB.nw HB.out hN1).cell)
  have hN1' := Nw.trans HN0.out hN1
  obtain ⟨v, h1, h2, h3⟩ := RngB.nw H0.out hN1'
  obtain ⟨c0, _⟩ := box_cell h1
  obtain ⟨va, vc, rfl, hvl, hvc⟩ := h2.form
  have H2 : Hid _ := h2
  have hBx : Hid (BoxB w.heap.size x w1) := BoxB.nw HB.out hN1
  have hs0 : w.heap.size < w1.heap.size := (Array.getElem?_eq_some_iff.1 hBx.out).1
  unfold maxLen at hvc
  have KEY : Hid (∀ w', Nw w1 w' → w'.cell? ⟨br, 0, none⟩ = some (.slice va L.length vc) ∧ w'.cell? ⟨w.heap.size, 0, none⟩ = some (.int .i64 x.1)) := fun w' hh => ⟨hh.cell c0, hh.cell q0⟩
  clear h2 h1 h3 hN1 HC
  have hmono : ∀ a b (ha : a < L.length) (hb : b < L.length), a ≤ b → decide (x.1 < L[a].2) = true → decide (x.1 < L[b].2) = true := fun a b ha hb hab hp => by
    have := (HR.out a b ha hb hab).2
    simp only [decide_eq_true_eq] at hp ⊢
    omega
  obtain ⟨k, hk⟩ := part_ex L (fun y => decide (x.1 < y.2)) hmono
  have hkL := hk.1
  have hkz : (k : Int) ≤ (L.length : Int) := by omega
  have HE : Hid (∀ w', Nw w w' → Calls Try.prog 38 #[.pointer (some ⟨br, 0, none⟩), .int .i64 x.1] w' fun e w2 => e = .returned (.int .i64 k) ∧ Nw w' w2) := fun w' hh => (ends_any br og L x.1 w' (RngB.nw H0.out hh) hL HR.out).mono (by rintro e w2 ⟨k', rfl, hk', hN⟩; exact ⟨by rw [part_one hk' hk], hN⟩)
  obtain ⟨RES, hRES⟩ : ∃ RES, RES = gp x x.1 (L.drop k) [] := ⟨_, rfl⟩
  have HRS : Hid _ := hRES
  clear hmono hRES
  by_cases hvk : vc = k
  · have hkl : k = L.length := by omega
    have hdr : L.drop (k + 0) = [] := by rw [List.drop_eq_nil_iff]; omega
    have HD : Hid _ := hdr
    have hz0 : L.length - k = 0 := by omega
    have HZ : Hid _ := hz0
    clear hdr hz0
    subst hvk
    go_region_held3 (fun w' => w'.cell? ⟨br, 0, none⟩ = some (.slice va L.length vc) ∧ w'.cell? ⟨w.heap.size, 0, none⟩ = some (.int .i64 x.1))
      (first | exact KEY.out _ hN2d | exact KEY.out _ (Fr.refl _ _).drew | exact KEY.out _ (Fr.refl _ _))
      (first | (go_at_call 38; refine (HE.out _ (Fr.drew hN1')).mono ?_; rintro e w2 ⟨rfl, hN2⟩; have hN2d : Nw w1 w2 := (Fr.refl _ _).drew.trans hN2))
    go_wp2_with fail
    go_loopw [5, 6, 24] (fun gs a1 i wr => i = .int .i64 0 ∧ a1 = .int .i64 x.1 ∧ gs = .slice none 0 0 ∧ Nw w wr ∧ Hid (BoxB w.heap.size x wr)) (fun _ _ i _ => 0)
    case atStart => exact ⟨rfl, rfl, rfl, Nw.trans hN1' hN2d, BoxB.nw hBx.out hN2d⟩
    case round =>
      obtain ⟨rfl, rfl, rfl, hN, HBx⟩ := hrel
      obtain ⟨q0, q1, _⟩ := HBx.out.cell
      have hgp : gfin x x.1 [] = RES := by rw [HRS.out]; rw [show L.drop vc = [] from HD.out]; rfl
      have hS : SVal (.slice none 0 0) none [] wr := .inl ⟨rfl, rfl, rfl⟩
      by_cases hAx : x.1 < x.2
      · have HG : Hid (RES = [(x.1, x.2)]) := by rw [← hgp]; unfold gfin; rw [if_pos hAx]; exact rfl
        clear hgp
        go_wp2_with (at_builtin; refine wpList_app rfl _ _ rfl (.slice none 0 0) none [] (x.1, x.2) _ rfl rfl (.inl ⟨rfl, rfl, rfl⟩) (RowB.newAt _ (x.1, x.2) _ (by simp)) (fun e => by cases e) (by simp) ?_; intro W' b' c' hA')
        obtain ⟨og2, hS2, hog2, hN2', _⟩ := gapA hA' (by ((repeat (first | exact Fr.refl _ _ | apply Fr.drew | apply Fr.drewN | apply Fr.alloc)); done)) hN (fun g' h => by cases h) HBx.out
        go_ret
        exact ⟨vc, b', c', RES, hk, HRS.out, by rw [HG.out]; rfl, og2, by rw [HG.out]; exact hS2, fun g' hg' => Nat.le_of_lt (hog2 g' hg'), hN2'⟩
      · have HG : Hid (RES = []) := by rw [← hgp]; unfold gfin; rw [if_neg hAx]; exact rfl
        clear hgp
        go_wp2
        go_ret
        exact ⟨vc, none, 0, RES, hk, HRS.out, by rw [HG.out]; rfl, none, by rw [HG.out]; exact .inl ⟨rfl, rfl, rfl⟩, (fun g' hg' => by cases hg'), hN⟩
  · rcases H2.out with ⟨e0, _, hLn⟩ | ⟨g, xs, hogg, hv, k1, k2, k3, k4⟩
    · exfalso; injection e0 with _ _ e0; rw [hLn] at hkL; simp at hkL; omega
    injection hv with hv1 _ hv2
    subst hv1 hv2
    go_region_held3 (fun w' => w'.cell? ⟨br, 0, none⟩ = some (.slice (some ⟨g, 0, none⟩) L.length xs.length) ∧ w'.cell? ⟨w.heap.size, 0, none⟩ = some (.int .i64 x.1))
      (first | exact KEY.out _ hN2d | exact KEY.out _ (Fr.refl _ _).drew | exact KEY.out _ (Fr.refl _ _))
      (first | (go_at_call 38; refine (HE.out _ (Fr.drew hN1')).mono ?_; rintro e w2 ⟨rfl, hN2⟩; have hN2d : Nw w1 w2 := (Fr.refl _ _).drew.trans hN2))
    go_wp2_with fail
    have hgw : RowB g xs w2 := Nw.row hN2d k4
    have hgl : g < w.heap.size := by obtain ⟨_, _, kk, _⟩ := H0.out; exact kk.lt g hogg
    have HG0 : Hid (RowB g xs w) := by
      obtain ⟨u, _, kk, _⟩ := H0.out
      have hb := hN1'.block g hgl (fun h => h)
      exact hb.symm.trans k4
    clear hgw k4
    go_loopw [5, 6, 24] (fun gs a1 i wr => ∃ (t : Nat) (A : Int) (GS : List Rg) (b : Option Addr) (c : Nat) (og1 : Option Nat), t ≤ L.length - k ∧ i = .int .i64 t ∧ a1 = .int .i64 A ∧ gs = .slice b GS.length c ∧ SVal (.slice b GS.length c) og1 GS wr ∧ (∀ g', og1 = some g' → w.heap.size < g') ∧ Nw w wr ∧ Hid (BoxB w.heap.size x wr) ∧ Hid (gp x A (L.drop (k + t)) GS = RES) ∧ GS.length ≤ t) (fun _ _ i _ => L.length - k - (intOf i).toNat)
    case atStart => exact ⟨0, x.1, [], none, 0, none, Nat.zero_le _, rfl, rfl, rfl, .inl ⟨rfl, rfl, rfl⟩, (fun g' h => by cases h), Nw.trans hN1' hN2d, BoxB.nw hBx.out hN2d, HRS.out.symm, Nat.le_refl _⟩
    case round =>
      obtain ⟨t, A, GS, b, c, og1, ht, rfl, rfl, rfl, hS, hog, hN, HBx, HGP, hGl⟩ := hrel
      obtain ⟨q0, q1, _⟩ := HBx.out.cell
      have hxlt : w.heap.size < wr.heap.size := by have := World.block_lt_of_cell? _ _ q0; simpa using this
      have q1a : ∀ o, (wr.alloc o).cell? ⟨w.heap.size, 1, none⟩ = some (.int .i64 x.2) := fun o => Nw.cell (Fr.alloc (Fr.refl _ wr) o) q1
      have hxne : ¬ wr.heap.size = w.heap.size := by omega
      by_cases hlt : t < L.length - k
      · have hlz : (t : Int) < ((L.length - k : Nat) : Int) := by omega
        obtain ⟨d1, d2⟩ := (Nw.row hN HG0.out).cell (k + t) (by omega)
        have e1 : xs[k + t]'(by omega) = L[k + t]'(by omega) := by
          have : (xs.take L.length)[k + t]? = L[k + t]? := by rw [k3]
          rw [List.getElem?_take, if_pos (by omega), List.getElem?_eq_getElem (by omega), List.getElem?_eq_getElem (by omega)] at this
          exact Option.some.inj this
        rw [e1] at d1 d2
        rw [show (k + t) * 2 = k * 2 + t * 2 by omega] at d1 d2
        have hgne : ¬ g = wr.heap.size := by have := hN.size; omega
        by_cases hbrk : x.2 ≤ (L[k + t]'(by omega)).1
        · have hgp : gfin x A GS = RES := by rw [← HGP.out, gp_end x A GS _ (.inr ⟨_, _, List.drop_eq_getElem_cons (by omega), hbrk⟩)]
          generalize L[k + t]'(by omega) = y at d1 d2 hbrk
          clear e1 k3
          by_cases hAx : A < x.2
          · have HG : Hid (RES = GS ++ [(A, x.2)]) := by rw [← hgp]; unfold gfin; rw [if_pos hAx]; exact rfl
            clear hgp
            go_wp2_with (at_builtin; refine wpList_app rfl _ _ rfl (.slice b GS.length c) og1 GS (A, x.2) _ rfl rfl (SVal.kept (X := fun _ => False) hS (by ((repeat (first | exact Fr.refl _ _ | apply Fr.drew | apply Fr.drewN | apply Fr.alloc)); done)) (fun _ _ h => h)) (RowB.newAt _ (A, x.2) _ (by simp)) (fun e => by have := hS.lt _ e; omega) (by omega) ?_; intro W' b' c' hA')
            obtain ⟨og2, hS2, hog2, hN2', _⟩ := gapA hA' (by ((repeat (first | exact Fr.refl _ _ | apply Fr.drew | apply Fr.drewN | apply Fr.alloc)); done)) hN hog HBx.out
            go_ret
            exact ⟨k, b', c', RES, hk, HRS.out, by rw [HG.out, List.length_append]; rfl, og2, by rw [HG.out]; exact hS2, fun g' hg' => Nat.le_of_lt (hog2 g' hg'), hN2'⟩
          · have HG : Hid (RES = GS) := by rw [← hgp]; unfold gfin; rw [if_neg hAx]; exact rfl
            clear hgp
            go_wp2
            go_ret
            exact ⟨k, b, c, RES, hk, HRS.out, by rw [HG.out]; rfl, og1, by rw [HG.out]; exact SVal.kept (X := fun _ => False) hS (by ((repeat (first | exact Fr.refl _ _ | apply Fr.drew | apply Fr.drewN | apply Fr.alloc)); done)) (fun _ _ h => h), fun g' hg' => Nat.le_of_lt (hog g' hg'), Nw.trans hN (by ((repeat (first | exact Fr.refl _ _ | apply Fr.drew | apply Fr.drewN | apply Fr.alloc)); done))⟩
        · have hgs := gp_step x A GS L (k + t) (by omega) hbrk
          have hGP := HGP.out
          rw [hgs] at hGP
          generalize L[k + t]'(by omega) = y at d1 d2 hbrk hGP
          clear e1 k3 hgs HGP
          by_cases hAy : A < y.1
          · rw [if_pos hAy] at hGP
            have HGP2 : Hid _ := hGP
            clear hGP
            go_wp2_with (at_builtin; refine wpList_app rfl _ _ rfl (.slice b GS.length c) og1 GS (A, y.1) _ rfl rfl (SVal.kept (X := fun _ => False) hS (by ((repeat (first | exact Fr.refl _ _ | apply Fr.drew | apply Fr.drewN | apply Fr.alloc)); done)) (fun _ _ h => h)) (RowB.newAt _ (A, y.1) _ (by simp)) (fun e => by have := hS.lt _ e; omega) (by omega) ?_; intro W' b' c' hA'; obtain ⟨og2, hS2, hog2, hN2', hB2⟩ := gapA hA' (by ((repeat (first | exact Fr.refl _ _ | apply Fr.drew | apply Fr.drewN | apply Fr.alloc)); done)) hN hog HBx.out; have z2 := ybox (y := y) hA' (BoxB.nw (BoxB.new wr y) (by ((repeat (first | exact Fr.refl _ _ | apply Fr.drew | apply Fr.drewN | apply Fr.alloc)); done))) hS)
            go_roundw
            case rel => exact ⟨t + 1, y.2, GS ++ [(A, y.1)], b', c', og2, by omega, by go_num, rfl, by rw [List.length_append]; rfl, hS2, hog2, hN2', hB2, by rw [show k + (t + 1) = k + t + 1 by omega]; exact HGP2.out, by rw [List.length_append]; simp; omega⟩
            case measure => simp [intOf]; omega
          · rw [if_neg hAy] at hGP
            have HGP2 : Hid _ := hGP
            clear hGP
            go_wp2
            go_roundw
            case rel => exact ⟨t + 1, y.2, GS, b, c, og1, by omega, by go_num, rfl, rfl, SVal.kept (X := fun _ => False) hS (by ((repeat (first | exact Fr.refl _ _ | apply Fr.drew | apply Fr.drewN | apply Fr.alloc)); done)) (fun _ _ h => h), hog, Nw.trans hN (by ((repeat (first | exact Fr.refl _ _ | apply Fr.drew | apply Fr.drewN | apply Fr.alloc)); done)), BoxB.nw HBx.out (by ((repeat (first | exact Fr.refl _ _ | apply Fr.drew | apply Fr.drewN | apply Fr.alloc)); done)), by rw [show k + (t + 1) = k + t + 1 by omega]; exact HGP2.out, by omega⟩
            case measure => simp [intOf]; omega
      · have hgp : gfin x A GS = RES := by rw [← HGP.out, gp_end x A GS _ (.inl (by rw [List.drop_eq_nil_iff]; omega))]
        have hlz : ¬ (t : Int) < ((L.length - k : Nat) : Int) := by omega
        by_cases hAx : A < x.2
        · have HG : Hid (RES = GS ++ [(A, x.2)]) := by rw [← hgp]; unfold gfin; rw [if_pos hAx]; exact rfl
          clear hgp
          go_wp2_with (at_builtin; refine wpList_app rfl _ _ rfl (.slice b GS.length c) og1 GS (A, x.2) _ rfl rfl (SVal.kept (X := fun _ => False) hS (by ((repeat (first | exact Fr.refl _ _ | apply Fr.drew | apply Fr.drewN | apply Fr.alloc)); done)) (fun _ _ h => h)) (RowB.newAt _ (A, x.2) _ (by simp)) (fun e => by have := hS.lt _ e; omega) (by omega) ?_; intro W' b' c' hA')
          obtain ⟨og2, hS2, hog2, hN2', _⟩ := gapA hA' (by ((repeat (first | exact Fr.refl _ _ | apply Fr.drew | apply Fr.drewN | apply Fr.alloc)); done)) hN hog HBx.out
          go_ret
          exact ⟨k, b', c', RES, hk, HRS.out, by rw [HG.out, List.length_append]; rfl, og2, by rw [HG.out]; exact hS2, fun g' hg' => Nat.le_of_lt (hog2 g' hg'), hN2'⟩
        · have HG : Hid (RES = GS) := by rw [← hgp]; unfold gfin; rw [if_neg hAx]; exact rfl
          clear hgp
          go_wp2
          go_ret
          exact ⟨k, b, c, RES, hk, HRS.out, by rw [HG.out]; rfl, og1, by rw [HG.out]; exact SVal.kept (X := fun _ => False) hS (by ((repeat (first | exact Fr.refl _ _ | apply Fr.drew | apply Fr.drewN | apply Fr.alloc)); done)) (fun _ _ h => h), fun g' hg' => Nat.le_of_lt (hog g' hg'), Nw.trans hN (by ((repeat (first | exact Fr.refl _ _ | apply Fr.drew | apply Fr.drewN | apply Fr.alloc)); done))⟩
end Go.Proofs.Ytegabbfdnpjkkaa
