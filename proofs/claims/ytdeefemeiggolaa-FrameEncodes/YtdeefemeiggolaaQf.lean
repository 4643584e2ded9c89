import Derived.Test.YtdeefemeiggolaaQd
import Derived.Test.YtdeefemeiggolaaQe
import Derived.Test.YtdeefemeiggolaaQa
import Derived.Laws.IdiomStrings
import Derived.Laws.Concat
namespace Go.Proofs.Ytdeefemeiggolaa
open Go.RowKit
set_option linter.unusedVariables false
set_option maxHeartbeats 40000000 in
set_option maxRecDepth 100000 in
theorem joined32_any (d : Nat) (s : BitVec 32) (l : List By) (w : World) (h : Took32 d s l w) (hl : l.length < 18446744073709551616) :
    Calls Try.prog 86 #[.pointer (some ⟨d, 0, none⟩)] w fun e w' => e = .returned (.int .u32 (beg32 s l).toNat) ∧ Nw w w' := by
  obtain ⟨rest, h1, h2, h3⟩ := h
  rw [Nat.mod_eq_of_lt hl] at h2
  have c0 := h2.tot
  by_cases hs : l.length < 16
  · have cs := h2.ext h1 0 _ rfl
    rw [Nat.add_zero] at cs
    have e : Hid (((beg32 s l).toNat : Int) = ((s.toNat : Int) + 374761393) % 4294967296) := by show _ = _; rw [beg32, if_pos hs, i_add32]; rfl
    have hz : (l.length : Int) < 16 := by omega
    generalize l.length = n at *
    clear h2 h3
    go_enter Try.func86, Try.ntmps86
    go_wp2
    go_ret
    exact ⟨congrArg (fun z => Ending.returned (.int .u32 z)) (by have := e.out; omega), Fr.refl _ _⟩
  · have e : Hid (beg32 s l = join32 (str32 s l)) := by show _ = _; rw [beg32, if_neg hs]
    have hz : ¬ (l.length : Int) < 16 := by omega
    have l0 := h2.ext h1 1 _ (ext32_at0 _ _)
    have l1 := h2.ext h1 2 _ (ext32_at1 _ _)
    have l2 := h2.ext h1 3 _ (ext32_at2 _ _)
    have l3 := h2.ext h1 4 _ (ext32_at3 _ _)
    simp only [Nat.reduceAdd] at l0 l1 l2 l3
    generalize str32 s l = x at *
    have KEY : Hid (∀ w', Nw w w' → w'.cell? ⟨d, 34, none⟩ = some (.int .u32 x.a.toNat) ∧ w'.cell? ⟨d, 35, none⟩ = some (.int .u32 x.b.toNat) ∧ w'.cell? ⟨d, 36, none⟩ = some (.int .u32 x.c.toNat) ∧ w'.cell? ⟨d, 37, none⟩ = some (.int .u32 x.d.toNat)) := fun w' hN => ⟨hN.cell l0, hN.cell l1, hN.cell l2, hN.cell l3⟩
    have H0 : Hid (∀ W, Nw w W → Calls Try.prog 84 #[.int .u32 x.a.toNat, .int .i64 1] W fun e w' => e = .returned (.int .u32 (x.a.rotateLeft 1).toNat) ∧ Nw w w') := fun W hW => cbase hW (rot32_at x.a 1 _ rfl (by decide) (by decide) W)
    have H1 : Hid (∀ W, Nw w W → Calls Try.prog 84 #[.int .u32 x.b.toNat, .int .i64 7] W fun e w' => e = .returned (.int .u32 (x.b.rotateLeft 7).toNat) ∧ Nw w w') := fun W hW => cbase hW (rot32_at x.b 7 _ rfl (by decide) (by decide) W)
    have H2 : Hid (∀ W, Nw w W → Calls Try.prog 84 #[.int .u32 x.c.toNat, .int .i64 12] W fun e w' => e = .returned (.int .u32 (x.c.rotateLeft 12).toNat) ∧ Nw w w') := fun W hW => cbase hW (rot32_at x.c 12 _ rfl (by decide) (by decide) W)
    have H3 : Hid (∀ W, Nw w W → Calls Try.prog 84 #[.int .u32 x.d.toNat, .int .i64 18] W fun e w' => e = .returned (.int .u32 (x.d.rotateLeft 18).toNat) ∧ Nw w w') := fun W hW => cbase hW (rot32_at x.d 18 _ rfl (by decide) (by decide) W)
    have hE : Hid (((join32 x).toNat : Int) = ((((x.a.rotateLeft 1).toNat + (x.b.rotateLeft 7).toNat : Int) % 4294967296 + (x.c.rotateLeft 12).toNat) % 4294967296 + (x.d.rotateLeft 18).toNat) % 4294967296) := by show _ = _; rw [join32, i_add32, i_add32, i_add32]
    have e2 : Hid (beg32 s l = join32 x) := e
    generalize beg32 s l = G at *
    generalize join32 x = J at *
    generalize x.a.rotateLeft 1 = R0 at *
    generalize x.b.rotateLeft 7 = R1 at *
    generalize x.c.rotateLeft 12 = R2 at *
    generalize x.d.rotateLeft 18 = R3 at *
    generalize l.length = n at *
    clear h2 h3 e
    go_enter Try.func86, Try.ntmps86
    go_wp2_with fail
    go_region_held3 (fun w' => w'.cell? ⟨d, 34, none⟩ = some (.int .u32 x.a.toNat) ∧ w'.cell? ⟨d, 35, none⟩ = some (.int .u32 x.b.toNat) ∧ w'.cell? ⟨d, 36, none⟩ = some (.int .u32 x.c.toNat) ∧ w'.cell? ⟨d, 37, none⟩ = some (.int .u32 x.d.toNat))
      (first | exact KEY.out _ (by assumption) | exact KEY.out _ (Fr.refl _ _).drew | exact KEY.out _ (Fr.refl _ _))
      (first
        | (go_at_call 84; with_reducible refine (H0.out _ ?_).mono ?_; (first | assumption | exact (Fr.refl _ _).drew | exact Fr.refl _ _ | exact (Fr.refl _ _).drewN _); rintro e w1 ⟨rfl, hN1⟩)
        | (go_at_call 84; with_reducible refine (H1.out _ ?_).mono ?_; (first | assumption | exact (Fr.refl _ _).drew | exact Fr.refl _ _ | exact (Fr.refl _ _).drewN _); rintro e w2 ⟨rfl, hN2⟩)
        | (go_at_call 84; with_reducible refine (H2.out _ ?_).mono ?_; (first | assumption | exact (Fr.refl _ _).drew | exact Fr.refl _ _ | exact (Fr.refl _ _).drewN _); rintro e w3 ⟨rfl, hN3⟩)
        | (go_at_call 84; with_reducible refine (H3.out _ ?_).mono ?_; (first | assumption | exact (Fr.refl _ _).drew | exact Fr.refl _ _ | exact (Fr.refl _ _).drewN _); rintro e w4 ⟨rfl, hN4⟩))
    go_wp2
    go_ret
    exact ⟨congrArg (fun z => Ending.returned (.int .u32 z)) (by have := hE.out; rw [e2.out, this]; simp only [IntKind.wrap_u32]), by assumption⟩
end Go.Proofs.Ytdeefemeiggolaa

namespace Go.Proofs.Ytdeefemeiggolaa
open Go.RowKit
set_option linter.unusedVariables false
theorem eg45 : ∀ args w, (callFunc 89 args).run Try.prog w = .ok (.enter 89 args) w := enters_of Try.func89 (by kernel_rfl) rfl
theorem eg46 : ∀ args w, (callFunc 90 args).run Try.prog w = .ok (.enter 90 args) w := enters_of Try.func90 (by kernel_rfl) rfl
/-- Pieces that turn one captured variable. -/
theorem fold_any {n : Nat} (k : IntKind) (T bh size : Nat) (hs : 0 < size) (hs2 : size < 1000) (f : BitVec n → List By → BitVec n) (c : Nat) (eg : ∀ args w, (callFunc c args).run Try.prog w = .ok (.enter c args) w)
    (hf : ∀ (h : BitVec n) g u p W, size ≤ p.length → Box T bh (.int k h.toNat) W → SlB g u p W → Calls Try.prog c #[u, .pointer (some ⟨bh, 0, none⟩)] W fun e w' => (∃ r, e = .returned r) ∧ Box T bh (.int k (f h p).toNat) w' ∧ Fr (fun k => k = bh) W w')
    (h : BitVec n) (g : Nat) (v : Value) (l : List By) (w : World) (hg : g ≠ bh) (hv : SlB g v l w) (hb : Box T bh (.int k h.toNat) w) :
    Calls Try.prog 87 #[v, .int .i64 size, .func (.func c) #[] #[.pointer (some ⟨bh, 0, none⟩)]] w fun e w' => ∃ u, e = .returned u ∧ SlB g u (l.drop (l.length / size * size)) w' ∧ Box T bh (.int k (foldc size f (l.length / size) h l).toNat) w' ∧ Fr (fun k => k = bh) w w' :=
  pieces_any g v l size hs hs2 c eg _ w (fun k' W => Box T bh (.int k (foldc size f k' h l).toNat) W ∧ Fr (fun k => k = bh) w W) ⟨hb, Fr.refl _ _⟩ (fun k' W hk => hv.kept hk.2 hg) (fun k' W u hk hl hu => by
    have hl' : k' * size + size ≤ l.length := by rw [Nat.add_mul] at hl; omega
    have hpl : ((l.drop (k' * size)).take size).length = size := by simp; omega
    refine (hf (foldc size f k' h l) g u _ W (by omega) hk.1 hu).mono ?_
    rintro e w' ⟨h1, h2, h3⟩
    exact ⟨h1, by rw [foldc_snoc]; exact h2, hk.2.trans h3⟩)
theorem new_box (w : World) (T : Nat) (v : Value) : Box T w.heap.size v (w.alloc (.cells #[v] T)) := by
  show (w.heap.push _)[w.heap.size]? = _
  simp
theorem tail32 (d bh : Nat) (hd : d ≠ bh) (h : BitVec 32) (t : List By) (v : Value) (W : World) (hv : SlB d v t W) (hb : Box 75 bh (.int .u32 h.toNat) W) :
    Calls Try.prog 87 #[v, .int .i64 4, .func (.func 89) #[] #[.pointer (some ⟨bh, 0, none⟩)]] W fun e w' => ∃ u, e = .returned u ∧ Hid (∀ V, Nw w' V → Calls Try.prog 87 #[u, .int .i64 1, .func (.func 90) #[] #[.pointer (some ⟨bh, 0, none⟩)]] V fun e w'' => ∃ u', e = .returned u' ∧ Box 75 bh (.int .u32 (foldc 1 bt32 (t.length % 4) (foldc 4 wd32 (t.length / 4) h t) (t.drop (t.length / 4 * 4))).toNat) w'' ∧ Fr (fun k => k = bh) W w'') := by
  refine (fold_any (n := 32) .u32 75 bh 4 (by decide) (by decide) wd32 89 eg45 (fun h g u p W hp hb hu => wd32_any bh h g u p hp W hb hu) h d v t W hd hv hb).mono ?_
  rintro e w' ⟨u, rfl, k1, k2, k3⟩
  refine ⟨u, rfl, fun V hV => ?_⟩
  refine (fold_any (n := 32) .u32 75 bh 1 (by decide) (by decide) bt32 90 eg46 (fun h g u p W hp hb hu => bt32_any bh h g u p hp W hb hu) _ d u _ V hd (k1.kept hV (fun h => h)) (k2.nw hV)).mono ?_
  rintro e w'' ⟨u', rfl, j1, j2, j3⟩
  have hl : (t.drop (t.length / 4 * 4)).length = t.length % 4 := by
    have := mod_split t.length 4
    simp; omega
  rw [mod1, hl] at j2
  exact ⟨u', rfl, j2, (k3.trans hV.any).trans j3⟩
set_option maxHeartbeats 40000000 in
set_option maxRecDepth 100000 in
theorem sum32_any (d : Nat) (s : BitVec 32) (l : List By) (w : World) (h : Took32 d s l w) (hl : l.length < 18446744073709551616) :
    Calls Try.prog 70 #[.pointer (some ⟨d, 0, none⟩)] w fun e w' => e = .returned (.int .u32 (s32 s l).toNat) ∧ Nw w w' := by
  have HJ0 := fun W hW => joined32_any d s l W (h.nw hW) hl
  obtain ⟨rest, h1, h2, h3⟩ := h
  rw [Nat.mod_eq_of_lt hl] at h2
  have c0 := h2.tot
  have hdl := h2.lt
  have hdne : ¬ d = w.heap.size := by omega
  have hdne2 : ¬ w.heap.size = d := by omega
  have KEY : Hid (∀ W, Nw w W → W.cell? ⟨d, 0, none⟩ = some (.int .u64 l.length)) := fun W hW => hW.cell c0
  have HJ : Hid (∀ W, Nw w W → Calls Try.prog 86 #[.pointer (some ⟨d, 0, none⟩)] W fun e w' => e = .returned (.int .u32 (beg32 s l).toNat) ∧ Nw w w' ∧ w'.cell? ⟨d, 0, none⟩ = some (.int .u64 l.length) ∧ ¬ d = w'.heap.size ∧ ¬ w'.heap.size = d) :=
    fun W hW => (HJ0 W hW).mono (fun e w' hk => ⟨hk.1, hW.trans hk.2, KEY.out _ (hW.trans hk.2), by have := (hW.trans hk.2).size; omega, by have := (hW.trans hk.2).size; omega⟩)
  have HJA : Hid (Calls Try.prog 86 #[.pointer (some ⟨d, 0, none⟩)] (w.alloc (Obj.cells #[.int .u32 0] 75)).drew fun e w' => e = .returned (.int .u32 (beg32 s l).toNat) ∧ Nw w w' ∧ w'.cell? ⟨d, 0, none⟩ = some (.int .u64 l.length) ∧ Box 75 w.heap.size (.int .u32 0) w' ∧ ¬ d = w'.heap.size ∧ ¬ w'.heap.size = d) :=
    (HJ0 _ (((Fr.refl _ _).alloc _).drew)).mono (fun e w' hk => ⟨hk.1, Nw.trans (((Fr.refl _ _).alloc _).drew) hk.2, KEY.out _ (Nw.trans (((Fr.refl _ _).alloc _).drew) hk.2), (Box.nw (w := (w.alloc (Obj.cells #[.int .u32 0] 75)).drew) (new_box w 75 _) hk.2), by have := (Nw.trans (((Fr.refl (fun _ => False) w).alloc _).drew) hk.2).size; omega, by have := (Nw.trans (((Fr.refl (fun _ => False) w).alloc _).drew) hk.2).size; omega⟩)
  obtain ⟨t, ht⟩ : ∃ t, t = l.drop (l.length / 16 * 16) := ⟨_, rfl⟩
  obtain ⟨h0, hh0⟩ : ∃ h0, h0 = beg32 s l + BitVec.ofNat 32 l.length := ⟨_, rfl⟩
  have hE0 : Hid (IntKind.u32.wrap (((beg32 s l).toNat : Int) + IntKind.u32.wrap (l.length : Int)) = (h0.toNat : Int)) := by
    show _ = _
    rw [hh0, i_add32, BitVec.toNat_ofNat, IntKind.wrap_u32, IntKind.wrap_u32]; omega
  have htl : t.length = l.length % 16 := by
    have := mod_split l.length 16
    rw [ht]; simp; omega
  have H44 : Hid (∀ V, Nw w V → Calls Try.prog 88 #[.pointer (some ⟨d, 0, none⟩), .int .i64 16] V fun e w' => e = .returned (.int .i64 t.length) ∧ Nw V w') := by
    intro V hV
    have := held_any 138 d _ rest _ 16 (by decide) (by decide) hl V (h2.nw hV)
    rw [← htl] at this; exact this
  have HV : Hid (∀ V, Nw w V → SlB d (.slice (some ⟨d, 1, none⟩) t.length 32) t V) := by
    intro V hV
    refine ⟨1, 32, rfl, by omega, by decide, ?_⟩
    have := (h2.nw hV).rd.take (l.length % 16)
    rw [h3, ← ht] at this; exact this
  obtain ⟨hf, hhf⟩ : ∃ hf, hf = (foldc 1 bt32 (t.length % 4) (foldc 4 wd32 (t.length / 4) h0 t) (t.drop (t.length / 4 * 4))) := ⟨_, rfl⟩
  have hS : Hid (s32 s l = xc32 (xb32 (xa32 hf))) := by
    show _ = _
    rw [hhf, ht, hh0]; rfl
  have HP : Hid (∀ bh W V, w.heap.size ≤ bh → Nw w W → Nw W V → Box 75 bh (.int .u32 h0.toNat) W → Calls Try.prog 87 #[.slice (some ⟨d, 1, none⟩) t.length 32, .int .i64 4, .func (.func 89) #[] #[.pointer (some ⟨bh, 0, none⟩)]] V fun e w' => ∃ u, e = .returned u ∧ Hid (∀ V, Nw w' V → Calls Try.prog 87 #[u, .int .i64 1, .func (.func 90) #[] #[.pointer (some ⟨bh, 0, none⟩)]] V fun e w'' => ∃ u', e = .returned u' ∧ Box 75 bh (.int .u32 hf.toNat) w'' ∧ Nw w w'')) := by
    intro bh W V hge hW hV hB
    refine (tail32 d bh (by omega) h0 t _ V (HV.out V (hW.trans hV)) (hB.nw hV)).mono ?_
    rintro e w' ⟨u, rfl, H⟩
    refine ⟨u, rfl, fun V' hV' => (H.out V' hV').mono ?_⟩
    rintro e w'' ⟨u', rfl, k1, k2⟩
    exact ⟨u', rfl, by rw [hhf]; exact k1, (hW.trans hV).then k2 (fun i hi => .inr (by omega))⟩
  have htz : ((t.length : Nat) : Int) ≤ 32 := by omega
  have hmf : ∀ (fn : Fn) (first cap : Array Value) (w : World), (Instr.makeFunc fn first cap).run Try.prog w = .ok (.func fn first cap) w := fun _ _ _ _ => rfl
  have hS' : Hid (((s32 s l).toNat : Int) = ((xc32 (xb32 (xa32 hf))).toNat : Int)) := by show _ = _; rw [hS.out]
  clear HJ0 h2 h3 ht hhf hh0 htl hS HV
  generalize t.length = tl at *
  generalize s32 s l = fs at *
  generalize beg32 s l = bg at *
  generalize l.length = n at *
  go_enter Try.func70, Try.ntmps70
  go_wp2_with fail
  go_region_held3 (fun w' => w'.cell? ⟨d, 0, none⟩ = some (.int .u64 n))
    ((refine KEY.out _ ?_; (repeat (first | assumption | exact Fr.refl _ _ | apply Fr.drew | apply Fr.drewN | apply Fr.alloc | (refine Fr.setCell ?_ _ _ (.inr ?_)) | exact Nat.le_refl _ | (refine Fr.size ?_)))))
    (first
      | (go_at_call 86; with_reducible refine HJA.out.mono ?_; rintro e w1 ⟨rfl, hN1, c1, hBx, hq1, hq2⟩; obtain ⟨c3, c4⟩ := hBx.cell)
      | (go_at_call 86; with_reducible refine (HJ.out _ ?_).mono ?_; (repeat (first | assumption | exact Fr.refl _ _ | apply Fr.drew | apply Fr.drewN | apply Fr.alloc)); rintro e w1 ⟨rfl, hN1, c1, hq1, hq2⟩))
  all_goals rw [hE0.out]
  · obtain ⟨bh, hbh⟩ : ∃ bh, bh = w1.heap.size := ⟨_, rfl⟩
    obtain ⟨W, hWe⟩ : ∃ W, W = w1.alloc (.cells #[.int .u32 h0.toNat] 75) := ⟨_, rfl⟩
    have hB : Box 75 bh (.int .u32 h0.toNat) W := by rw [hbh, hWe]; exact new_box _ _ _
    have hNW : Nw w W := by rw [hWe]; exact hN1.alloc _
    have hge : w.heap.size ≤ bh := by rw [hbh]; exact hN1.size
    rw [← hWe, ← hbh]
    clear hWe hbh
    have hB : Hid (Box 75 bh (.int .u32 h0.toNat) W) := hB
    clear c0 KEY HJ HJA hN1 c1 hq1 hq2
    have H44 : Hid (∀ V, Nw W V → Calls Try.prog 88 #[.pointer (some ⟨d, 0, none⟩), .int .i64 16] V fun e w' => e = .returned (.int .i64 tl) ∧ Nw W w') := fun V hV => cbase hV (H44.out V (hNW.trans hV))
    have HP : Hid _ := fun V (hV : Nw W V) => HP.out bh W V hge hNW hV hB.out
    go_wp2_with fail
    go_region_held3 (fun w' => True) (exact trivial)
      (first
        | (go_at_call 88; with_reducible refine (H44.out _ ?_).mono ?_; (first | assumption | exact (Fr.refl _ _).drew | exact Fr.refl _ _); rintro e w2 ⟨rfl, hN2⟩)
        | (go_at_call 87; refine (HP.out _ ?_).mono ?_; (first | assumption | exact (Fr.refl _ _).drew | exact Fr.refl _ _); rintro e w3 ⟨u3, rfl, H3⟩))
    all_goals go_wp2_with (go_at_call 87; refine (H3.out _ ?_).mono ?_; (first | exact Fr.refl _ _ | exact (Fr.refl _ _).drew); rintro e w4 ⟨u4, rfl, hB4, hN4⟩; obtain ⟨c5, c6⟩ := hB4.cell)
    all_goals go_ret
    all_goals exact ⟨congrArg (fun z => Ending.returned (.int .u32 z)) (by rw [hS'.out]; (try simp only [IntKind.wrap_u32]); rw [i_xa32, i_xb32, i_xc32]), by (repeat (first | assumption | exact Fr.refl _ _ | apply Fr.drew | apply Fr.drewN | apply Fr.alloc | (refine Fr.setCell ?_ _ _ (.inr ?_)) | exact Nat.le_refl _ | (refine Fr.size ?_)))⟩
  · obtain ⟨bh, hbh⟩ : ∃ bh, bh = w.heap.size := ⟨_, rfl⟩
    obtain ⟨W, hWe⟩ : ∃ W, W = w1.setCell ⟨w.heap.size, 0, none⟩ (.int .u32 h0.toNat) := ⟨_, rfl⟩
    have hB : Box 75 bh (.int .u32 h0.toNat) W := by rw [hbh, hWe]; exact hBx.set _
    have hNW : Nw w W := by rw [hWe]; exact hN1.setCell _ _ (.inr (Nat.le_refl _))
    have hge : w.heap.size ≤ bh := by rw [hbh]; exact Nat.le_refl _
    rw [← hWe, ← hbh]
    clear hWe hbh hBx c3 c4
    have hB : Hid (Box 75 bh (.int .u32 h0.toNat) W) := hB
    clear c0 KEY HJ HJA hN1 c1 hq1 hq2
    have H44 : Hid (∀ V, Nw W V → Calls Try.prog 88 #[.pointer (some ⟨d, 0, none⟩), .int .i64 16] V fun e w' => e = .returned (.int .i64 tl) ∧ Nw W w') := fun V hV => cbase hV (H44.out V (hNW.trans hV))
    have HP : Hid _ := fun V (hV : Nw W V) => HP.out bh W V hge hNW hV hB.out
    go_wp2_with fail
    go_region_held3 (fun w' => True) (exact trivial)
      (first
        | (go_at_call 88; with_reducible refine (H44.out _ ?_).mono ?_; (first | assumption | exact (Fr.refl _ _).drew | exact Fr.refl _ _); rintro e w2 ⟨rfl, hN2⟩)
        | (go_at_call 87; refine (HP.out _ ?_).mono ?_; (first | assumption | exact (Fr.refl _ _).drew | exact Fr.refl _ _); rintro e w3 ⟨u3, rfl, H3⟩))
    all_goals go_wp2_with (go_at_call 87; refine (H3.out _ ?_).mono ?_; (first | exact Fr.refl _ _ | exact (Fr.refl _ _).drew); rintro e w4 ⟨u4, rfl, hB4, hN4⟩; obtain ⟨c5, c6⟩ := hB4.cell)
    all_goals go_ret
    all_goals exact ⟨congrArg (fun z => Ending.returned (.int .u32 z)) (by rw [hS'.out]; (try simp only [IntKind.wrap_u32]); rw [i_xa32, i_xb32, i_xc32]), by (repeat (first | assumption | exact Fr.refl _ _ | apply Fr.drew | apply Fr.drewN | apply Fr.alloc | (refine Fr.setCell ?_ _ _ (.inr ?_)) | exact Nat.le_refl _ | (refine Fr.size ?_)))⟩
end Go.Proofs.Ytdeefemeiggolaa

namespace Go.Proofs.Ytdeefemeiggolaa
open Go.RowKit
set_option linter.unusedVariables false
set_option maxHeartbeats 4000000 in
theorem sumf32_any (s : BitVec 32) (v : Value) (b : List By) (w : World) (hv : Old w v b) : Calls Try.prog 54 #[.int .u32 s.toNat, v] w fun e w' => e = .returned (.int .u32 (s32 s b).toNat) ∧ Nw w w' := by
  have hlen := hv.length
  have H1 : Hid (Calls Try.prog 68 #[.int .u32 s.toNat] w fun e w1 => e = .returned (.pointer (some ⟨w.heap.size, 0, none⟩)) ∧ Hid (Calls Try.prog 69 #[.pointer (some ⟨w.heap.size, 0, none⟩), v] w1 fun e w2 => (∃ r, e = .returned r) ∧ Hid (Calls Try.prog 70 #[.pointer (some ⟨w.heap.size, 0, none⟩)] w2 fun e w3 => e = .returned (.int .u32 (s32 s b).toNat) ∧ Nw w w3))) := by
    refine (new32_any s _ rfl w).mono ?_
    rintro e w1 ⟨rfl, hN, hD, _⟩
    refine ⟨rfl, ?_⟩
    show Calls _ _ _ _ _
    refine (write32_any w.heap.size s [] v b w1 (Took32.new hD) ((hv.nw hN).mono (fun g hg => by omega))).mono ?_
    rintro e w2 ⟨hr, hT, hF⟩
    refine ⟨hr, ?_⟩
    show Calls _ _ _ _ _
    refine (sum32_any w.heap.size s _ w2 hT (by simp; omega)).mono ?_
    rintro e w3 ⟨rfl, hN3⟩
    exact ⟨rfl, Fr.trans (hN.then hF (fun i hi => .inr (by omega))) hN3⟩
  clear hv
  go_enter Try.func54, Try.ntmps54
  go_wp2_with (go_at_call 68; with_reducible refine H1.out.mono ?_; rintro e w1 ⟨rfl, H2⟩)
  go_wp2_with (go_at_call 69; with_reducible refine H2.out.mono ?_; rintro e w2 ⟨⟨r, rfl⟩, H3⟩)
  go_wp2_with (go_at_call 70; with_reducible refine H3.out.mono ?_; rintro e w3 ⟨rfl, hN3⟩)
  go_ret
  exact ⟨rfl, hN3⟩

end Go.Proofs.Ytdeefemeiggolaa

namespace Go.Proofs.Ytdeefemeiggolaa
open Go.RowKit
set_option linter.unusedVariables false
/-! ### Bytes as a string -/
def u8 (b : By) : UInt8 := UInt8.ofNat b.toNat
theorem u8_nat (b : By) : (u8 b).toNat = b.toNat := by
  have := b.isLt
  simp [u8]
def str (l : List By) : ByteArray := ⟨(l.map u8).toArray⟩
theorem u8_inj (b c : By) (h : u8 b = u8 c) : b = c := by
  have := congrArg UInt8.toNat h
  rw [u8_nat, u8_nat] at this
  exact BitVec.eq_of_toNat_eq this
theorem map_inj {l m : List By} (h : l.map u8 = m.map u8) : l = m := by
  induction l generalizing m with
  | nil => cases m with
    | nil => rfl
    | cons x r => simp at h
  | cons x r ih => cases m with
    | nil => simp at h
    | cons y s => simp only [List.map_cons, List.cons.injEq] at h; rw [u8_inj x y h.1, ih h.2]
theorem str_inj {l m : List By} : str l = str m ↔ l = m := by
  constructor
  · intro h
    have h1 := congrArg ByteArray.data h
    have h2 : (l.map u8) = (m.map u8) := by simpa [str] using h1
    exact map_inj h2
  · intro h; rw [h]
theorem str_app (l m : List By) : str l ++ str m = str (l ++ m) := by
  apply ByteArray.ext
  simp [str]
theorem str_size (l : List By) : (str l).size = l.length := by
  show (str l).data.size = _
  simp [str]
theorem conv_any {X : Nat → Prop} {v : Value} {l : List By} {w : World} (h : Sl X v l w) : (convert 22 9 v).run Try.prog w = .ok (.string (str l)) w := by
  have key : ∀ (g o c : Nat), Rd g o l w → (convert 22 9 (.slice (some ⟨g, o, none⟩) l.length c)).run Try.prog w = .ok (.string (str l)) w := by
    intro g o c hr
    have := run_convert_bytes_back (P := Try.prog) w 22 9 5 ⟨g, o, none⟩ c (l.map u8) Try.underlying22 Try.underlying5 Try.underlying9 (fun j hj => by
      have hj' : j < l.length := by simpa using hj
      rw [add_addr, hr j hj']
      simp [u8_nat])
    rw [List.length_map] at this
    exact this
  rcases h with ⟨a, rfl, rfl⟩ | ⟨g, _, o, c, rfl, h1, h2, h3⟩
  · cases a with
    | none =>
      rw [run_convert_bytes_string w 22 9 5 none 0 0 Try.underlying22 Try.underlying5 Try.underlying9]
      simp [Conv.bytesToString, str, Sem.run_pure]
      rfl
    | some a =>
      exact run_convert_bytes_back (P := Try.prog) w 22 9 5 a 0 [] Try.underlying22 Try.underlying5 Try.underlying9 (fun j hj => by simp at hj)
  · exact key g o c h3
theorem one_two_three (w : World) : Sl (fun _ => False) (.slice (some ⟨w.heap.size, 0, none⟩) 3 3) [1#8, 2#8, 3#8] (w.alloc (.cells #[.int .u8 1, .int .u8 2, .int .u8 3] 5)) := by
  have hb : Bw w.heap.size [1#8, 2#8, 3#8] (w.alloc (.cells #[.int .u8 1, .int .u8 2, .int .u8 3] 5)) := by
    show (w.heap.push _)[w.heap.size]? = _
    simp
  exact .inr ⟨_, fun h => h, Ow.slb ⟨[1#8, 2#8, 3#8], rfl, rfl, by decide, by decide, hb⟩⟩
end Go.Proofs.Ytdeefemeiggolaa
