import Derived.Test.YtlfcgldbgejfbaaXxK
import Derived.Test.YtlfcgldbgejfbaaXxL
namespace Go.Proofs.Ytlfcgldbgejfbaa
open Go.RowKit
set_option linter.unusedVariables false
theorem eg45 : ∀ args w, (callFunc 45 args).run Try.prog w = .ok (.enter 45 args) w := enters_of Try.func45 (by kernel_rfl) rfl
theorem eg46 : ∀ args w, (callFunc 46 args).run Try.prog w = .ok (.enter 46 args) w := enters_of Try.func46 (by kernel_rfl) rfl
theorem eg48 : ∀ args w, (callFunc 48 args).run Try.prog w = .ok (.enter 48 args) w := enters_of Try.func48 (by kernel_rfl) rfl
theorem eg50 : ∀ args w, (callFunc 50 args).run Try.prog w = .ok (.enter 50 args) w := enters_of Try.func50 (by kernel_rfl) rfl
theorem eg51 : ∀ args w, (callFunc 51 args).run Try.prog w = .ok (.enter 51 args) w := enters_of Try.func51 (by kernel_rfl) rfl
/-- Pieces that turn one captured variable. -/
theorem fold_any {n : Nat} (k : IntKind) (T bh size : Nat) (hs : 0 < size) (hs2 : size < 1000) (f : BitVec n → List By → BitVec n) (c : Nat) (eg : ∀ args w, (callFunc c args).run Try.prog w = .ok (.enter c args) w)
    (hf : ∀ (h : BitVec n) g u p W, size ≤ p.length → Box T bh (.int k h.toNat) W → SlB g u p W → Calls Try.prog c #[u, .pointer (some ⟨bh, 0, none⟩)] W fun e w' => (∃ r, e = .returned r) ∧ Box T bh (.int k (f h p).toNat) w' ∧ Fr (fun k => k = bh) W w')
    (h : BitVec n) (g : Nat) (v : Value) (l : List By) (w : World) (hg : g ≠ bh) (hv : SlB g v l w) (hb : Box T bh (.int k h.toNat) w) :
    Calls Try.prog 43 #[v, .int .i64 size, .func (.func c) #[] #[.pointer (some ⟨bh, 0, none⟩)]] w fun e w' => ∃ u, e = .returned u ∧ SlB g u (l.drop (l.length / size * size)) w' ∧ Box T bh (.int k (foldc size f (l.length / size) h l).toNat) w' ∧ Fr (fun k => k = bh) w w' :=
  pieces_any g v l size hs hs2 c eg _ w (fun k' W => Box T bh (.int k (foldc size f k' h l).toNat) W ∧ Fr (fun k => k = bh) w W) ⟨hb, Fr.refl _ _⟩ (fun k' W hk => hv.kept hk.2 hg) (fun k' W u hk hl hu => by
    have hl' : k' * size + size ≤ l.length := by rw [Nat.add_mul] at hl; omega
    have hpl : ((l.drop (k' * size)).take size).length = size := by simp; omega
    refine (hf (foldc size f k' h l) g u _ W (by omega) hk.1 hu).mono ?_
    rintro e w' ⟨h1, h2, h3⟩
    exact ⟨h1, by rw [foldc_snoc]; exact h2, hk.2.trans h3⟩)
theorem new_box (w : World) (T : Nat) (v : Value) : Box T w.heap.size v (w.alloc (.cells #[v] T)) := by
  show (w.heap.push _)[w.heap.size]? = _
  simp
theorem tail32 (d bh : Nat) (hd : d ≠ bh) (h : BitVec 32) (t : List By) (v : Value) (W : World) (hv : SlB d v t W) (hb : Box 22 bh (.int .u32 h.toNat) W) :
    Calls Try.prog 43 #[v, .int .i64 4, .func (.func 45) #[] #[.pointer (some ⟨bh, 0, none⟩)]] W fun e w' => ∃ u, e = .returned u ∧ Hid (∀ V, Nw w' V → Calls Try.prog 43 #[u, .int .i64 1, .func (.func 46) #[] #[.pointer (some ⟨bh, 0, none⟩)]] V fun e w'' => ∃ u', e = .returned u' ∧ Box 22 bh (.int .u32 (foldc 1 bt32 (t.length % 4) (foldc 4 wd32 (t.length / 4) h t) (t.drop (t.length / 4 * 4))).toNat) w'' ∧ Fr (fun k => k = bh) W w'') := by
  refine (fold_any (n := 32) .u32 22 bh 4 (by decide) (by decide) wd32 45 eg45 (fun h g u p W hp hb hu => wd32_any bh h g u p hp W hb hu) h d v t W hd hv hb).mono ?_
  rintro e w' ⟨u, rfl, k1, k2, k3⟩
  refine ⟨u, rfl, fun V hV => ?_⟩
  refine (fold_any (n := 32) .u32 22 bh 1 (by decide) (by decide) bt32 46 eg46 (fun h g u p W hp hb hu => bt32_any bh h g u p hp W hb hu) _ d u _ V hd (k1.kept hV (fun h => h)) (k2.nw hV)).mono ?_
  rintro e w'' ⟨u', rfl, j1, j2, j3⟩
  have hl : (t.drop (t.length / 4 * 4)).length = t.length % 4 := by
    have := mod_split t.length 4
    simp; omega
  rw [mod1, hl] at j2
  exact ⟨u', rfl, j2, (k3.trans hV.any).trans j3⟩
theorem tail64 (d bh : Nat) (hd : d ≠ bh) (h : BitVec 64) (t t1 t2 : List By) (ht1 : t1 = t.drop (t.length / 8 * 8)) (ht2 : t2 = t1.drop (t1.length / 4 * 4)) (v : Value) (W : World) (hv : SlB d v t W) (hb : Box 23 bh (.int .u64 h.toNat) W) :
    Calls Try.prog 43 #[v, .int .i64 8, .func (.func 48) #[] #[.pointer (some ⟨bh, 0, none⟩)]] W fun e w' => ∃ u, e = .returned u ∧ Hid (∀ V, Nw w' V → Calls Try.prog 43 #[u, .int .i64 4, .func (.func 50) #[] #[.pointer (some ⟨bh, 0, none⟩)]] V fun e w' => ∃ u, e = .returned u ∧ Hid (∀ V, Nw w' V → Calls Try.prog 43 #[u, .int .i64 1, .func (.func 51) #[] #[.pointer (some ⟨bh, 0, none⟩)]] V fun e w'' => ∃ u', e = .returned u' ∧ Box 23 bh (.int .u64 (foldc 1 bt64 t2.length (foldc 4 hw64 (t1.length / 4) (foldc 8 wd64 (t.length / 8) h t) t1) t2).toNat) w'' ∧ Fr (fun k => k = bh) W w'')) := by
  refine (fold_any (n := 64) .u64 23 bh 8 (by decide) (by decide) wd64 48 eg48 (fun h g u p W hp hb hu => wd64_any bh h g u p hp W hb hu) h d v t W hd hv hb).mono ?_
  rintro e w' ⟨u, rfl, k1, k2, k3⟩
  rw [← ht1] at k1
  refine ⟨u, rfl, fun V hV => ?_⟩
  refine (fold_any (n := 64) .u64 23 bh 4 (by decide) (by decide) hw64 50 eg50 (fun h g u p W hp hb hu => hw64_any bh h g u p hp W hb hu) _ d u t1 V hd (k1.kept hV (fun h => h)) (k2.nw hV)).mono ?_
  rintro e w'' ⟨u', rfl, j1, j2, j3⟩
  rw [← ht2] at j1
  refine ⟨u', rfl, fun V' hV' => ?_⟩
  refine (fold_any (n := 64) .u64 23 bh 1 (by decide) (by decide) bt64 51 eg51 (fun h g u p W hp hb hu => bt64_any bh h g u p hp W hb hu) _ d u' t2 V' hd (j1.kept hV' (fun h => h)) (j2.nw hV')).mono ?_
  rintro e w3 ⟨u3, rfl, i1, i2, i3⟩
  rw [mod1] at i2
  exact ⟨u3, rfl, i2, (((k3.trans hV.any).trans j3).trans hV'.any).trans i3⟩
set_option maxHeartbeats 40000000 in
set_option maxRecDepth 100000 in
theorem sum32_any (d : Nat) (s : BitVec 32) (l : List By) (w : World) (h : Took32 d s l w) (hl : l.length < 18446744073709551616) :
    Calls Try.prog 22 #[.pointer (some ⟨d, 0, none⟩)] w fun e w' => e = .returned (.int .u32 (s32 s l).toNat) ∧ Nw w w' := by
  have HJ0 := fun W hW => joined32_any d s l W (h.nw hW) hl
  obtain ⟨rest, h1, h2, h3⟩ := h
  rw [Nat.mod_eq_of_lt hl] at h2
  have c0 := h2.tot
  have hdl := h2.lt
  have hdne : ¬ d = w.heap.size := by omega
  have hdne2 : ¬ w.heap.size = d := by omega
  have KEY : Hid (∀ W, Nw w W → W.cell? ⟨d, 0, none⟩ = some (.int .u64 l.length)) := fun W hW => hW.cell c0
  have HJ : Hid (∀ W, Nw w W → Calls Try.prog 42 #[.pointer (some ⟨d, 0, none⟩)] W fun e w' => e = .returned (.int .u32 (beg32 s l).toNat) ∧ Nw w w' ∧ w'.cell? ⟨d, 0, none⟩ = some (.int .u64 l.length) ∧ ¬ d = w'.heap.size ∧ ¬ w'.heap.size = d) :=
    fun W hW => (HJ0 W hW).mono (fun e w' hk => ⟨hk.1, hW.trans hk.2, KEY.out _ (hW.trans hk.2), by have := (hW.trans hk.2).size; omega, by have := (hW.trans hk.2).size; omega⟩)
  have HJA : Hid (Calls Try.prog 42 #[.pointer (some ⟨d, 0, none⟩)] (w.alloc (Obj.cells #[.int .u32 0] 22)).drew fun e w' => e = .returned (.int .u32 (beg32 s l).toNat) ∧ Nw w w' ∧ w'.cell? ⟨d, 0, none⟩ = some (.int .u64 l.length) ∧ Box 22 w.heap.size (.int .u32 0) w' ∧ ¬ d = w'.heap.size ∧ ¬ w'.heap.size = d) :=
    (HJ0 _ (((Fr.refl _ _).alloc _).drew)).mono (fun e w' hk => ⟨hk.1, Nw.trans (((Fr.refl _ _).alloc _).drew) hk.2, KEY.out _ (Nw.trans (((Fr.refl _ _).alloc _).drew) hk.2), (Box.nw (w := (w.alloc (Obj.cells #[.int .u32 0] 22)).drew) (new_box w 22 _) hk.2), by have := (Nw.trans (((Fr.refl (fun _ => False) w).alloc _).drew) hk.2).size; omega, by have := (Nw.trans (((Fr.refl (fun _ => False) w).alloc _).drew) hk.2).size; omega⟩)
  obtain ⟨t, ht⟩ : ∃ t, t = l.drop (l.length / 16 * 16) := ⟨_, rfl⟩
  obtain ⟨h0, hh0⟩ : ∃ h0, h0 = beg32 s l + BitVec.ofNat 32 l.length := ⟨_, rfl⟩
  have hE0 : Hid (IntKind.u32.wrap (((beg32 s l).toNat : Int) + IntKind.u32.wrap (l.length : Int)) = (h0.toNat : Int)) := by
    show _ = _
    rw [hh0, i_add32, BitVec.toNat_ofNat, IntKind.wrap_u32, IntKind.wrap_u32]; omega
  have htl : t.length = l.length % 16 := by
    have := mod_split l.length 16
    rw [ht]; simp; omega
  have H44 : Hid (∀ V, Nw w V → Calls Try.prog 44 #[.pointer (some ⟨d, 0, none⟩), .int .i64 16] V fun e w' => e = .returned (.int .i64 t.length) ∧ Nw V w') := by
    intro V hV
    have := held_any 66 d _ rest _ 16 (by decide) (by decide) hl V (h2.nw hV)
    rw [← htl] at this; exact this
  have HV : Hid (∀ V, Nw w V → SlB d (.slice (some ⟨d, 1, none⟩) t.length 32) t V) := by
    intro V hV
    refine ⟨1, 32, rfl, by omega, by decide, ?_⟩
    have := (h2.nw hV).rd.take (l.length % 16)
    rw [h3, ← ht] at this; exact this
  obtain ⟨hf, hhf⟩ : ∃ hf, hf = (foldc 1 bt32 (t.length % 4) (foldc 4 wd32 (t.length / 4) h0 t) (t.drop (t.length / 4 * 4))) := ⟨_, rfl⟩
  have hS : Hid (s32 s l = xc32 (xb32 (xa32 hf))) := by
    show _ = _
    rw [hhf, ht, hh0]; rfl
  have HP : Hid (∀ bh W V, w.heap.size ≤ bh → Nw w W → Nw W V → Box 22 bh (.int .u32 h0.toNat) W → Calls Try.prog 43 #[.slice (some ⟨d, 1, none⟩) t.length 32, .int .i64 4, .func (.func 45) #[] #[.pointer (some ⟨bh, 0, none⟩)]] V fun e w' => ∃ u, e = .returned u ∧ Hid (∀ V, Nw w' V → Calls Try.prog 43 #[u, .int .i64 1, .func (.func 46) #[] #[.pointer (some ⟨bh, 0, none⟩)]] V fun e w'' => ∃ u', e = .returned u' ∧ Box 22 bh (.int .u32 hf.toNat) w'' ∧ Nw w w'')) := by
    intro bh W V hge hW hV hB
    refine (tail32 d bh (by omega) h0 t _ V (HV.out V (hW.trans hV)) (hB.nw hV)).mono ?_
    rintro e w' ⟨u, rfl, H⟩
    refine ⟨u, rfl, fun V' hV' => (H.out V' hV').mono ?_⟩
    rintro e w'' ⟨u', rfl, k1, k2⟩
    exact ⟨u', rfl, by rw [hhf]; exact k1, (hW.trans hV).then k2 (fun i hi => .inr (by omega))⟩
  have htz : ((t.length : Nat) : Int) ≤ 32 := by omega
  have hmf : ∀ (fn : Fn) (first cap : Array Value) (w : World), (Instr.makeFunc fn first cap).run Try.prog w = .ok (.func fn first cap) w := fun _ _ _ _ => rfl
  have hS' : Hid (((s32 s l).toNat : Int) = ((xc32 (xb32 (xa32 hf))).toNat : Int)) := by show _ = _; rw [hS.out]
  clear HJ0 h2 h3 ht hhf hh0 htl hS HV
  generalize t.length = tl at *
  generalize s32 s l = fs at *
  generalize beg32 s l = bg at *
  generalize l.length = n at *
  go_enter Try.func22, Try.ntmps22
  go_wp2_with fail
  go_region_held3 (fun w' => w'.cell? ⟨d, 0, none⟩ = some (.int .u64 n))
    ((refine KEY.out _ ?_; (repeat (first | assumption | exact Fr.refl _ _ | apply Fr.drew | apply Fr.drewN | apply Fr.alloc | (refine Fr.setCell ?_ _ _ (.inr ?_)) | exact Nat.le_refl _ | (refine Fr.size ?_)))))
    (first
      | (go_at_call 42; with_reducible refine HJA.out.mono ?_; rintro e w1 ⟨rfl, hN1, c1, hBx, hq1, hq2⟩; obtain ⟨c3, c4⟩ := hBx.cell)
      | (go_at_call 42; with_reducible refine (HJ.out _ ?_).mono ?_; (repeat (first | assumption | exact Fr.refl _ _ | apply Fr.drew | apply Fr.drewN | apply Fr.alloc)); rintro e w1 ⟨rfl, hN1, c1, hq1, hq2⟩))
  all_goals rw [hE0.out]
  · obtain ⟨bh, hbh⟩ : ∃ bh, bh = w1.heap.size := ⟨_, rfl⟩
    obtain ⟨W, hWe⟩ : ∃ W, W = w1.alloc (.cells #[.int .u32 h0.toNat] 22) := ⟨_, rfl⟩
    have hB : Box 22 bh (.int .u32 h0.toNat) W := by rw [hbh, hWe]; exact new_box _ _ _
    have hNW : Nw w W := by rw [hWe]; exact hN1.alloc _
    have hge : w.heap.size ≤ bh := by rw [hbh]; exact hN1.size
    rw [← hWe, ← hbh]
    clear hWe hbh
    have hB : Hid (Box 22 bh (.int .u32 h0.toNat) W) := hB
    clear c0 KEY HJ HJA hN1 c1 hq1 hq2
    have H44 : Hid (∀ V, Nw W V → Calls Try.prog 44 #[.pointer (some ⟨d, 0, none⟩), .int .i64 16] V fun e w' => e = .returned (.int .i64 tl) ∧ Nw W w') := fun V hV => cbase hV (H44.out V (hNW.trans hV))
    have HP : Hid _ := fun V (hV : Nw W V) => HP.out bh W V hge hNW hV hB.out
    go_wp2_with fail
    go_region_held3 (fun w' => True) (exact trivial)
      (first
        | (go_at_call 44; with_reducible refine (H44.out _ ?_).mono ?_; (first | assumption | exact (Fr.refl _ _).drew | exact Fr.refl _ _); rintro e w2 ⟨rfl, hN2⟩)
        | (go_at_call 43; refine (HP.out _ ?_).mono ?_; (first | assumption | exact (Fr.refl _ _).drew | exact Fr.refl _ _); rintro e w3 ⟨u3, rfl, H3⟩))
    all_goals go_wp2_with (go_at_call 43; refine (H3.out _ ?_).mono ?_; (first | exact Fr.refl _ _ | exact (Fr.refl _ _).drew); rintro e w4 ⟨u4, rfl, hB4, hN4⟩; obtain ⟨c5, c6⟩ := hB4.cell)
    all_goals go_ret
    all_goals exact ⟨congrArg (fun z => Ending.returned (.int .u32 z)) (by rw [hS'.out]; (try simp only [IntKind.wrap_u32]); rw [i_xa32, i_xb32, i_xc32]), by (repeat (first | assumption | exact Fr.refl _ _ | apply Fr.drew | apply Fr.drewN | apply Fr.alloc | (refine Fr.setCell ?_ _ _ (.inr ?_)) | exact Nat.le_refl _ | (refine Fr.size ?_)))⟩
  · obtain ⟨bh, hbh⟩ : ∃ bh, bh = w.heap.size := ⟨_, rfl⟩
    obtain ⟨W, hWe⟩ : ∃ W, W = w1.setCell ⟨w.heap.size, 0, none⟩ (.int .u32 h0.toNat) := ⟨_, rfl⟩
    have hB : Box 22 bh (.int .u32 h0.toNat) W := by rw [hbh, hWe]; exact hBx.set _
    have hNW : Nw w W := by rw [hWe]; exact hN1.setCell _ _ (.inr (Nat.le_refl _))
    have hge : w.heap.size ≤ bh := by rw [hbh]; exact Nat.le_refl _
    rw [← hWe, ← hbh]
    clear hWe hbh hBx c3 c4
    have hB : Hid (Box 22 bh (.int .u32 h0.toNat) W) := hB
    clear c0 KEY HJ HJA hN1 c1 hq1 hq2
    have H44 : Hid (∀ V, Nw W V → Calls Try.prog 44 #[.pointer (some ⟨d, 0, none⟩), .int .i64 16] V fun e w' => e = .returned (.int .i64 tl) ∧ Nw W w') := fun V hV => cbase hV (H44.out V (hNW.trans hV))
    have HP : Hid _ := fun V (hV : Nw W V) => HP.out bh W V hge hNW hV hB.out
    go_wp2_with fail
    go_region_held3 (fun w' => True) (exact trivial)
      (first
        | (go_at_call 44; with_reducible refine (H44.out _ ?_).mono ?_; (first | assumption | exact (Fr.refl _ _).drew | exact Fr.refl _ _); rintro e w2 ⟨rfl, hN2⟩)
        | (go_at_call 43; refine (HP.out _ ?_).mono ?_; (first | assumption | exact (Fr.refl _ _).drew | exact Fr.refl _ _); rintro e w3 ⟨u3, rfl, H3⟩))
    all_goals go_wp2_with (go_at_call 43; refine (H3.out _ ?_).mono ?_; (first | exact Fr.refl _ _ | exact (Fr.refl _ _).drew); rintro e w4 ⟨u4, rfl, hB4, hN4⟩; obtain ⟨c5, c6⟩ := hB4.cell)
    all_goals go_ret
    all_goals exact ⟨congrArg (fun z => Ending.returned (.int .u32 z)) (by rw [hS'.out]; (try simp only [IntKind.wrap_u32]); rw [i_xa32, i_xb32, i_xc32]), by (repeat (first | assumption | exact Fr.refl _ _ | apply Fr.drew | apply Fr.drewN | apply Fr.alloc | (refine Fr.setCell ?_ _ _ (.inr ?_)) | exact Nat.le_refl _ | (refine Fr.size ?_)))⟩
set_option maxHeartbeats 40000000 in
set_option maxRecDepth 100000 in
theorem sum64_any (d : Nat) (s : BitVec 64) (l : List By) (w : World) (h : Took64 d s l w) (hl : l.length < 18446744073709551616) :
    Calls Try.prog 23 #[.pointer (some ⟨d, 0, none⟩)] w fun e w' => e = .returned (.int .u64 (s64 s l).toNat) ∧ Nw w w' := by
  have HJ0 := fun W hW => joined64_any d s l W (h.nw hW) hl
  obtain ⟨rest, h1, h2, h3⟩ := h
  rw [Nat.mod_eq_of_lt hl] at h2
  have c0 := h2.tot
  have hdl := h2.lt
  have hdne : ¬ d = w.heap.size := by omega
  have hdne2 : ¬ w.heap.size = d := by omega
  have KEY : Hid (∀ W, Nw w W → W.cell? ⟨d, 0, none⟩ = some (.int .u64 l.length)) := fun W hW => hW.cell c0
  have HJ : Hid (∀ W, Nw w W → Calls Try.prog 47 #[.pointer (some ⟨d, 0, none⟩)] W fun e w' => e = .returned (.int .u64 (beg64 s l).toNat) ∧ Nw w w' ∧ w'.cell? ⟨d, 0, none⟩ = some (.int .u64 l.length) ∧ ¬ d = w'.heap.size ∧ ¬ w'.heap.size = d) :=
    fun W hW => (HJ0 W hW).mono (fun e w' hk => ⟨hk.1, hW.trans hk.2, KEY.out _ (hW.trans hk.2), by have := (hW.trans hk.2).size; omega, by have := (hW.trans hk.2).size; omega⟩)
  have HJA : Hid (Calls Try.prog 47 #[.pointer (some ⟨d, 0, none⟩)] (w.alloc (Obj.cells #[.int .u64 0] 23)).drew fun e w' => e = .returned (.int .u64 (beg64 s l).toNat) ∧ Nw w w' ∧ w'.cell? ⟨d, 0, none⟩ = some (.int .u64 l.length) ∧ Box 23 w.heap.size (.int .u64 0) w' ∧ ¬ d = w'.heap.size ∧ ¬ w'.heap.size = d) :=
    (HJ0 _ (((Fr.refl _ _).alloc _).drew)).mono (fun e w' hk => ⟨hk.1, Nw.trans (((Fr.refl _ _).alloc _).drew) hk.2, KEY.out _ (Nw.trans (((Fr.refl _ _).alloc _).drew) hk.2), (Box.nw (w := (w.alloc (Obj.cells #[.int .u64 0] 23)).drew) (new_box w 23 _) hk.2), by have := (Nw.trans (((Fr.refl (fun _ => False) w).alloc _).drew) hk.2).size; omega, by have := (Nw.trans (((Fr.refl (fun _ => False) w).alloc _).drew) hk.2).size; omega⟩)
  obtain ⟨t, ht⟩ : ∃ t, t = l.drop (l.length / 32 * 32) := ⟨_, rfl⟩
  obtain ⟨h0, hh0⟩ : ∃ h0, h0 = beg64 s l + BitVec.ofNat 64 l.length := ⟨_, rfl⟩
  have hE0 : Hid (IntKind.u64.wrap (((beg64 s l).toNat : Int) + (l.length : Int)) = (h0.toNat : Int)) := by
    show _ = _
    rw [hh0, i_add64, BitVec.toNat_ofNat, IntKind.wrap_u64]; omega
  have htl : t.length = l.length % 32 := by
    have := mod_split l.length 32
    rw [ht]; simp; omega
  have H44 : Hid (∀ V, Nw w V → Calls Try.prog 44 #[.pointer (some ⟨d, 0, none⟩), .int .i64 32] V fun e w' => e = .returned (.int .i64 t.length) ∧ Nw V w') := by
    intro V hV
    have := held_any 68 d _ rest _ 32 (by decide) (by decide) hl V (h2.nw hV)
    rw [← htl] at this; exact this
  have HV : Hid (∀ V, Nw w V → SlB d (.slice (some ⟨d, 1, none⟩) t.length 32) t V) := by
    intro V hV
    refine ⟨1, 32, rfl, by omega, by decide, ?_⟩
    have := (h2.nw hV).rd.take (l.length % 32)
    rw [h3, ← ht] at this; exact this
  obtain ⟨t1, ht1⟩ : ∃ t1, t1 = t.drop (t.length / 8 * 8) := ⟨_, rfl⟩
  obtain ⟨t2, ht2⟩ : ∃ t2, t2 = t1.drop (t1.length / 4 * 4) := ⟨_, rfl⟩
  obtain ⟨hf, hhf⟩ : ∃ hf, hf = (foldc 1 bt64 t2.length (foldc 4 hw64 (t1.length / 4) (foldc 8 wd64 (t.length / 8) h0 t) t1) t2) := ⟨_, rfl⟩
  have hS : Hid (s64 s l = xc64 (xb64 (xa64 hf))) := by
    show _ = _
    rw [hhf, ht2, ht1, ht, hh0]; rfl
  have HP : Hid (∀ bh W V, w.heap.size ≤ bh → Nw w W → Nw W V → Box 23 bh (.int .u64 h0.toNat) W → Calls Try.prog 43 #[.slice (some ⟨d, 1, none⟩) t.length 32, .int .i64 8, .func (.func 48) #[] #[.pointer (some ⟨bh, 0, none⟩)]] V fun e w' => ∃ u, e = .returned u ∧ Hid (∀ V, Nw w' V → Calls Try.prog 43 #[u, .int .i64 4, .func (.func 50) #[] #[.pointer (some ⟨bh, 0, none⟩)]] V fun e w' => ∃ u, e = .returned u ∧ Hid (∀ V, Nw w' V → Calls Try.prog 43 #[u, .int .i64 1, .func (.func 51) #[] #[.pointer (some ⟨bh, 0, none⟩)]] V fun e w'' => ∃ u', e = .returned u' ∧ Box 23 bh (.int .u64 hf.toNat) w'' ∧ Nw w w''))) := by
    intro bh W V hge hW hV hB
    refine (tail64 d bh (by omega) h0 t t1 t2 ht1 ht2 _ V (HV.out V (hW.trans hV)) (hB.nw hV)).mono ?_
    rintro e w' ⟨u, rfl, H⟩
    refine ⟨u, rfl, fun V' hV' => (H.out V' hV').mono ?_⟩
    rintro e w2 ⟨u2, rfl, H2⟩
    refine ⟨u2, rfl, fun V2 hV2 => (H2.out V2 hV2).mono ?_⟩
    rintro e w'' ⟨u', rfl, k1, k2⟩
    exact ⟨u', rfl, by rw [hhf]; exact k1, (hW.trans hV).then k2 (fun i hi => .inr (by omega))⟩
  have htz : ((t.length : Nat) : Int) ≤ 32 := by omega
  have hmf : ∀ (fn : Fn) (first cap : Array Value) (w : World), (Instr.makeFunc fn first cap).run Try.prog w = .ok (.func fn first cap) w := fun _ _ _ _ => rfl
  have hS' : Hid (((s64 s l).toNat : Int) = ((xc64 (xb64 (xa64 hf))).toNat : Int)) := by show _ = _; rw [hS.out]
  clear HJ0 h2 h3 ht hhf hh0 htl hS HV ht1 ht2
  generalize t.length = tl at *
  generalize s64 s l = fs at *
  generalize beg64 s l = bg at *
  generalize l.length = n at *
  go_enter Try.func23, Try.ntmps23
  go_wp2_with fail
  go_region_held3 (fun w' => w'.cell? ⟨d, 0, none⟩ = some (.int .u64 n))
    ((refine KEY.out _ ?_; (repeat (first | assumption | exact Fr.refl _ _ | apply Fr.drew | apply Fr.drewN | apply Fr.alloc | (refine Fr.setCell ?_ _ _ (.inr ?_)) | exact Nat.le_refl _ | (refine Fr.size ?_)))))
    (first
      | (go_at_call 47; with_reducible refine HJA.out.mono ?_; rintro e w1 ⟨rfl, hN1, c1, hBx, hq1, hq2⟩; obtain ⟨c3, c4⟩ := hBx.cell)
      | (go_at_call 47; with_reducible refine (HJ.out _ ?_).mono ?_; (repeat (first | assumption | exact Fr.refl _ _ | apply Fr.drew | apply Fr.drewN | apply Fr.alloc)); rintro e w1 ⟨rfl, hN1, c1, hq1, hq2⟩))
  all_goals rw [hE0.out]
  · obtain ⟨bh, hbh⟩ : ∃ bh, bh = w1.heap.size := ⟨_, rfl⟩
    obtain ⟨W, hWe⟩ : ∃ W, W = w1.alloc (.cells #[.int .u64 h0.toNat] 23) := ⟨_, rfl⟩
    have hB : Box 23 bh (.int .u64 h0.toNat) W := by rw [hbh, hWe]; exact new_box _ _ _
    have hNW : Nw w W := by rw [hWe]; exact hN1.alloc _
    have hge : w.heap.size ≤ bh := by rw [hbh]; exact hN1.size
    rw [← hWe, ← hbh]
    clear hWe hbh
    have hB : Hid (Box 23 bh (.int .u64 h0.toNat) W) := hB
    clear c0 KEY HJ HJA hN1 c1 hq1 hq2
    have H44 : Hid (∀ V, Nw W V → Calls Try.prog 44 #[.pointer (some ⟨d, 0, none⟩), .int .i64 32] V fun e w' => e = .returned (.int .i64 tl) ∧ Nw W w') := fun V hV => cbase hV (H44.out V (hNW.trans hV))
    have HP : Hid _ := fun V (hV : Nw W V) => HP.out bh W V hge hNW hV hB.out
    go_wp2_with fail
    go_region_held3 (fun w' => True) (exact trivial)
      (first
        | (go_at_call 44; with_reducible refine (H44.out _ ?_).mono ?_; (first | assumption | exact (Fr.refl _ _).drew | exact Fr.refl _ _); rintro e w2 ⟨rfl, hN2⟩)
        | (go_at_call 43; refine (HP.out _ ?_).mono ?_; (first | assumption | exact (Fr.refl _ _).drew | exact Fr.refl _ _); rintro e w3 ⟨u3, rfl, H3⟩))
    all_goals go_wp2_with (first
      | (go_at_call 43; with_reducible refine (H3.out _ ?_).mono ?_; (first | exact Fr.refl _ _ | exact (Fr.refl _ _).drew); rintro e w5 ⟨u5, rfl, H5⟩)
      | (go_at_call 43; with_reducible refine (H5.out _ ?_).mono ?_; (first | exact Fr.refl _ _ | exact (Fr.refl _ _).drew); rintro e w4 ⟨u4, rfl, hB4, hN4⟩; obtain ⟨c5, c6⟩ := hB4.cell))
    all_goals go_ret
    all_goals exact ⟨congrArg (fun z => Ending.returned (.int .u64 z)) (by rw [hS'.out]; (try simp only [IntKind.wrap_u64]); rw [i_xa64, i_xb64, i_xc64]), by (repeat (first | assumption | exact Fr.refl _ _ | apply Fr.drew | apply Fr.drewN | apply Fr.alloc | (refine Fr.setCell ?_ _ _ (.inr ?_)) | exact Nat.le_refl _ | (refine Fr.size ?_)))⟩
  · obtain ⟨bh, hbh⟩ : ∃ bh, bh = w.heap.size := ⟨_, rfl⟩
    obtain ⟨W, hWe⟩ : ∃ W, W = w1.setCell ⟨w.heap.size, 0, none⟩ (.int .u64 h0.toNat) := ⟨_, rfl⟩
    have hB : Box 23 bh (.int .u64 h0.toNat) W := by rw [hbh, hWe]; exact hBx.set _
    have hNW : Nw w W := by rw [hWe]; exact hN1.setCell _ _ (.inr (Nat.le_refl _))
    have hge : w.heap.size ≤ bh := by rw [hbh]; exact Nat.le_refl _
    rw [← hWe, ← hbh]
    clear hWe hbh hBx c3 c4
    have hB : Hid (Box 23 bh (.int .u64 h0.toNat) W) := hB
    clear c0 KEY HJ HJA hN1 c1 hq1 hq2
    have H44 : Hid (∀ V, Nw W V → Calls Try.prog 44 #[.pointer (some ⟨d, 0, none⟩), .int .i64 32] V fun e w' => e = .returned (.int .i64 tl) ∧ Nw W w') := fun V hV => cbase hV (H44.out V (hNW.trans hV))
    have HP : Hid _ := fun V (hV : Nw W V) => HP.out bh W V hge hNW hV hB.out
    go_wp2_with fail
    go_region_held3 (fun w' => True) (exact trivial)
      (first
        | (go_at_call 44; with_reducible refine (H44.out _ ?_).mono ?_; (first | assumption | exact (Fr.refl _ _).drew | exact Fr.refl _ _); rintro e w2 ⟨rfl, hN2⟩)
        | (go_at_call 43; refine (HP.out _ ?_).mono ?_; (first | assumption | exact (Fr.refl _ _).drew | exact Fr.refl _ _); rintro e w3 ⟨u3, rfl, H3⟩))
    all_goals go_wp2_with (first
      | (go_at_call 43; with_reducible refine (H3.out _ ?_).mono ?_; (first | exact Fr.refl _ _ | exact (Fr.refl _ _).drew); rintro e w5 ⟨u5, rfl, H5⟩)
      | (go_at_call 43; with_reducible refine (H5.out _ ?_).mono ?_; (first | exact Fr.refl _ _ | exact (Fr.refl _ _).drew); rintro e w4 ⟨u4, rfl, hB4, hN4⟩; obtain ⟨c5, c6⟩ := hB4.cell))
    all_goals go_ret
    all_goals exact ⟨congrArg (fun z => Ending.returned (.int .u64 z)) (by rw [hS'.out]; (try simp only [IntKind.wrap_u64]); rw [i_xa64, i_xb64, i_xc64]), by (repeat (first | assumption | exact Fr.refl _ _ | apply Fr.drew | apply Fr.drewN | apply Fr.alloc | (refine Fr.setCell ?_ _ _ (.inr ?_)) | exact Nat.le_refl _ | (refine Fr.size ?_)))⟩
end Go.Proofs.Ytlfcgldbgejfbaa
