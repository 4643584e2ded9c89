import Derived.Test.YtincbbnppcpfpaaDoorTbi
namespace Go.Proofs.YtincbbnppcpfpaaDoor
open Go.RowKit
set_option linter.unusedVariables false
theorem kpt_shift (X : List By) (k p : Nat) (hk : k ≤ X.length) (hp : p ≤ 8 * (X.drop k).length) : bt (X.drop k) p = bt X (8 * k + p) ∧ lft X (8 * k + p) = lft (X.drop k) p ∧ kpt X (8 * k + p) = kpt (X.drop k) p ∧ skp X (8 * k + p) = skp (X.drop k) p := by
  have hl : (X.drop k).length = X.length - k := List.length_drop
  rw [hl] at hp
  have h1 := bt_drop X k hk
  have hL : lft X (8 * k + p) = lft (X.drop k) p := by unfold lft; rw [hl]; congr 1; omega
  refine ⟨?_, hL, ?_, ?_⟩
  · rw [← bt_rest X, h1, bt_rest, Nat.zero_add]
  · have hle := lft_le (X.drop k) p (by rw [hl]; exact hp)
    rw [hl] at hle
    unfold kpt
    rw [hL, List.drop_drop, hl]
    congr 1; omega
  · unfold skp
    rw [hL, hl]
    omega
theorem kpt_drop (x z : List By) (p : Nat) (hp : p ≤ 8 * x.length) : kpt x p ++ z = (x ++ z).drop (x.length - lft x p) := by
  unfold kpt
  rw [List.drop_append_of_le_length (by omega)]
theorem rf_nil (most : Nat) : rf most [] = (ini, bt [] 0, 4) := by
  unfold rf
  refine run_bad (by decide) ?_
  rw [stepR, if_pos (show ini.md = 0 from rfl), headR]
  exact bindR_bad (by unfold takeR; rw [if_pos (by decide)])
variable {rb most tk : Nat} {B : Nat → Prop} {x z : List By} {sv kv : Value} {og : Option Nat} {w : World}
/-- What was fed goes on: what the next run says of all. -/
theorem rf_next (h4 : (rf most x).2.2 = 4) (hat : (rf most x).2.1 = bt x (pos most x)) {s' : Sx} {p' y : Nat} (hr : run most (rf most x).1 (bt (kpt x (pos most x) ++ z) (skp x (pos most x))) = (s', bt (kpt x (pos most x) ++ z) p', y)) (hp : p' ≤ 8 * (kpt x (pos most x) ++ z).length) :
    rf most (x ++ z) = (s', bt (x ++ z) (pos most (x ++ z)), y) ∧ kpt (x ++ z) (pos most (x ++ z)) = kpt (kpt x (pos most x) ++ z) p' ∧ skp (x ++ z) (pos most (x ++ z)) = skp (kpt x (pos most x) ++ z) p' := by
  have hpx : pos most x ≤ 8 * x.length := by unfold pos; omega
  have hll := lft_le x _ hpx
  obtain ⟨k, hk⟩ : ∃ k, k = x.length - lft x (pos most x) := ⟨_, rfl⟩
  have hd := kpt_drop x z _ hpx
  rw [← hk] at hd
  have e1 := rf_more z h4
  rw [hat, ← bt_app x z _ hpx, bt_kept x z _ hpx, hr] at e1
  rw [hd] at e1 hp ⊢
  obtain ⟨q1, q2, q3, q4⟩ := kpt_shift (x ++ z) k p' (by rw [List.length_append]; omega) hp
  rw [List.length_drop] at hp
  have hpos : pos most (x ++ z) = 8 * k + p' := by
    have hxz : k ≤ (x ++ z).length := by rw [List.length_append]; omega
    unfold pos
    rw [e1, q1]
    show 8 * (x ++ z).length - (8 * (x ++ z).length - (8 * k + p')) = _
    omega
  rw [hpos]
  exact ⟨by rw [e1, q1], q3, q4⟩
/-- Behind the end nothing changes but what is kept. -/
theorem rf_over (h0 : (rf most x).2.2 ≠ 4) (hat : (rf most x).2.1 = bt x (pos most x)) : (rf most (x ++ z)).1 = (rf most x).1 ∧ (rf most (x ++ z)).2.2 = (rf most x).2.2 ∧ (rf most (x ++ z)).2.1 = bt (x ++ z) (pos most (x ++ z)) ∧ ((rf most x).2.2 = 0 → kl most (x ++ z) = kl most x ++ z) := by
  have hpx : pos most x ≤ 8 * x.length := by unfold pos; omega
  have hll := lft_le x _ hpx
  have e1 := rf_end z h0
  rw [hat, ← bt_app x z _ hpx] at e1
  have hpos : pos most (x ++ z) = pos most x := by
    show 8 * (x ++ z).length - (rf most (x ++ z)).2.1.n = _
    rw [e1]
    show 8 * (x ++ z).length - (8 * (x ++ z).length - pos most x) = _
    rw [List.length_append]; omega
  rw [hpos]
  refine ⟨by rw [e1], by rw [e1], by rw [e1], fun h => ?_⟩
  have hy : (rf most (x ++ z)).2.2 = 0 := by rw [e1]; exact h
  unfold kl
  rw [if_pos (.inr hy), if_pos (.inr h), hpos, kpt_drop x z _ hpx]
  unfold kpt
  have : lft (x ++ z) (pos most x) = lft x (pos most x) + z.length := by unfold lft; rw [List.length_append]; omega
  rw [this, List.length_append]
  congr 1; omega
end Go.Proofs.YtincbbnppcpfpaaDoor

namespace Go.Proofs.YtincbbnppcpfpaaDoor
open Go.RowKit
set_option linter.unusedVariables false
/-- A new reader. -/
theorem rdi_new (w : World) (most : Nat) (hm : most ≤ 4194304) (hT : Tab w) : RdI (w.heap.size + 1) (fun k => k = w.heap.size ∨ k = w.heap.size + 1) most [] 0 (.pointer (some ⟨w.heap.size, 0, none⟩)) (.slice none 0 0) none ((w.alloc (.cells (srow (.pointer none) 0 0 most mini ini) 61)).alloc (.cells #[.pointer (some ⟨w.heap.size, 0, none⟩), .slice none 0 0, .int .i64 0, .int .i64 4] 71)) := by
  have h00 : 0 < w.heap.size := World.block_lt_of_cell? _ _ (hT 0 (by decide))
  have h1 := smi_new w (fun k => k < w.heap.size) most hm (fun _ h => h)
  obtain ⟨W1, hW1⟩ : ∃ W1, W1 = w.alloc (.cells (srow (.pointer none) 0 0 most mini ini) 61) := ⟨_, rfl⟩
  rw [← hW1] at h1 ⊢
  have hsz : W1.heap.size = w.heap.size + 1 := by rw [hW1]; simp
  have hrow := new_heap W1 (.cells #[.pointer (some ⟨w.heap.size, 0, none⟩), .slice none 0 0, .int .i64 0, .int .i64 4] 71)
  rw [hsz] at hrow
  have hN : Nw W1 (W1.alloc (.cells #[.pointer (some ⟨w.heap.size, 0, none⟩), .slice none 0 0, .int .i64 0, .int .i64 4] 71)) := (Fr.refl _ _).alloc _
  have h2 := (h1.keep hN (fun h => h) (fun _ _ h => h) (fun _ _ h => h) (fun _ _ h => h)).typed
  have hsz2 : (W1.alloc (.cells #[.pointer (some ⟨w.heap.size, 0, none⟩), .slice none 0 0, .int .i64 0, .int .i64 4] 71)).heap.size = w.heap.size + 2 := by
    show (W1.heap.push _).size = _
    rw [Array.size_push, hsz]
  have hr := rf_nil most
  have hp : pos most [] = 0 := by unfold pos; simp
  refine ⟨by rw [hr]; exact hrow, .inr rfl, fun k hk => ?_, ?_, fun g hg => (by cases hg), fun _ => rfl, fun _ => ⟨w.heap.size, mini, 0, rfl, ?_, rfl, ?_, .inl rfl, by omega, by simp, fun g hg => (by cases hg)⟩, fun e => absurd (by rw [hr]) e, hm, by rw [hr, hp]⟩
  · rw [hsz2]
    rcases hk with rfl | rfl
    · exact ⟨by omega, h2.ks, by omega⟩
    · exact ⟨by omega, kt_no hrow (by decide) (by decide) (by decide), by omega⟩
  · refine ⟨rfl, ?_⟩
    unfold kl
    rw [hr, if_pos (.inl rfl)]
    unfold kpt; simp
  · rw [hr, hp]; exact h2
  · rw [hr]; exact bd_ini _ _
set_option maxHeartbeats 4000000 in
theorem inew_any (w : World) (most : Int) (hT : Tab w) : Calls Tryd.prog 18 #[.int .i64 most] w fun e w' => (most < 0 ∨ 4194304 < most → e = .returned (.tuple #[.pointer none, .int .i64 1]) ∧ w = w') ∧ (∀ m : Nat, most = m → m ≤ 4194304 → e = .returned (.tuple #[.pointer (some ⟨w.heap.size + 1, 0, none⟩), .int .i64 0]) ∧ RdI (w.heap.size + 1) (fun k => k = w.heap.size ∨ k = w.heap.size + 1) m [] 0 (.pointer (some ⟨w.heap.size, 0, none⟩)) (.slice none 0 0) none w' ∧ Nw w w') := by
  obtain ⟨P, hP⟩ : ∃ P : Ending → World → Prop, P = fun e w' => (most < 0 ∨ 4194304 < most → e = .returned (.tuple #[.pointer none, .int .i64 1]) ∧ w = w') ∧ (∀ m : Nat, most = m → m ≤ 4194304 → e = .returned (.tuple #[.pointer (some ⟨w.heap.size + 1, 0, none⟩), .int .i64 0]) ∧ RdI (w.heap.size + 1) (fun k => k = w.heap.size ∨ k = w.heap.size + 1) m [] 0 (.pointer (some ⟨w.heap.size, 0, none⟩)) (.slice none 0 0) none w' ∧ Nw w w') := ⟨_, rfl⟩
  rw [← hP]
  have HMB : Hid (Calls Tryd.prog 23 #[.int .i64 most] w fun e w' => e = .returned (.bool (decide (0 ≤ most ∧ most ≤ 4194304))) ∧ w = w') := mayBe_any most w
  by_cases hm : most < 0 ∨ 4194304 < most
  · have HF : Hid (P (.returned (.tuple #[.pointer none, .int .i64 1])) w) := by
      show P _ _
      rw [hP]
      exact ⟨fun _ => ⟨rfl, rfl⟩, fun m e1 e2 => by omega⟩
    rw [decide_eq_false (by omega)] at HMB
    clear hP
    go_enter Tryd.func18, Tryd.ntmps18
    go_wp2_with (first | (go_at_call 23; (with_reducible refine HMB.out.mono ?_); rintro e w1 ⟨rfl, rfl⟩))
    exact HF.out
  · obtain ⟨mo, rfl⟩ : ∃ mo : Nat, most = mo := ⟨most.toNat, by omega⟩
    rw [decide_eq_true (by omega)] at HMB
    have hR := rdi_new w mo (by omega) hT
    have hN : Nw w ((w.alloc (.cells (srow (.pointer none) 0 0 mo mini ini) 61)).alloc (.cells #[.pointer (some ⟨w.heap.size, 0, none⟩), .slice none 0 0, .int .i64 0, .int .i64 4] 71)) := ((Fr.refl _ _).alloc _).alloc _
    have HF : Hid (P (.returned (.tuple #[.pointer (some ⟨w.heap.size + 1, 0, none⟩), .int .i64 0])) ((w.alloc (.cells #[.pointer none, .int .i64 0, .int .i64 0, .int .i64 mo, .int .i64 0, .slice none 0 0, .slice none 0 0, .int .i64 0, .bool false, .int .i64 0, .pointer none, .pointer none, .bool false] 61)).alloc (.cells #[.pointer (some ⟨w.heap.size, 0, none⟩), .slice none 0 0, .int .i64 0, .int .i64 4] 71))) := by
      show P _ _
      rw [hP]
      exact ⟨fun e => absurd e hm, fun m e1 e2 => by
        obtain rfl : m = mo := by omega
        exact ⟨rfl, hR, hN⟩⟩
    clear hP hT hR hN
    go_enter Tryd.func18, Tryd.ntmps18
    go_wp2_with (first | (go_at_call 23; (with_reducible refine HMB.out.mono ?_); rintro e w1 ⟨rfl, rfl⟩))
    exact HF.out
end Go.Proofs.YtincbbnppcpfpaaDoor

namespace Go.Proofs.YtincbbnppcpfpaaDoor
open Go.RowKit
set_option linter.unusedVariables false
variable {rb most tk : Nat} {B : Nat → Prop} {x z : List By} {sv kv : Value} {og : Option Nat} {w : World}
/-- What a piece tells. -/
noncomputable def toldOf (most : Nat) (x z : List By) : List By := (rf most (x ++ z)).1.out.drop (rf most x).1.out.length
/-- What Feed answers and leaves. -/
def Fed (rb : Nat) (B : Nat → Prop) (most : Nat) (x z : List By) (tk : Nat) (w : World) (e : Ending) (w' : World) : Prop :=
  ∃ a c tk' sv' kv' og' B', e = .returned (.tuple #[.slice a (toldOf most x z).length c, .int .i64 ((if (rf most (x ++ z)).2.2 = 4 then 0 else (rf most (x ++ z)).2.2 : Nat) : Int)]) ∧ (∃ ogt, Og ogt (.slice a (toldOf most x z).length c) (toldOf most x z) w' ∧ ∀ g, ogt = some g → ¬ B' g ∧ g < w'.heap.size ∧ (B g ∨ w.heap.size ≤ g)) ∧ RdI rb B' most (x ++ z) tk' sv' kv' og' w' ∧ (∀ k, B' k → B k ∨ w.heap.size ≤ k) ∧ Fr B w w' ∧ tk' = (if (rf most x).2.2 = 4 ∨ (rf most x).2.2 = 0 then tk + z.length else tk) ∧ (rf most x).1.out ++ toldOf most x z = (rf most (x ++ z)).1.out
theorem told_app : (rf most x).1.out ++ toldOf most x z = (rf most (x ++ z)).1.out := by
  obtain ⟨m, hm⟩ := rf_pre most x z
  unfold toldOf
  rw [hm, List.drop_left]
theorem og_old {g : Option Nat} {v : Value} {l : List By} (h : Og g v l w) : Old w v l := by
  cases g with
  | none => obtain ⟨e1, e2⟩ := h; exact .inl ⟨none, e1, e2⟩
  | some g => exact h.old
theorem fed_live (h : RdI rb B most x tk sv kv og w) (h4 : (rf most x).2.2 = 4) {sb : Nat} {m : Mm} (hsb : B sb) (hsr : sb ≠ rb) (how : ∀ g, m.ow = some g → B g ∧ g ≠ rb) {w3 w4 : World} {e : Ending} (f3 : Fr (fun k => k = rb) w w3)
    (hG : Gon rb sb (kpt x (pos most x) ++ z) most (rf most x).1.out.length (skp x (pos most x)) m (rf most x).1 (tk + z.length) w3 e w4) : Fed rb B most x z tk w e w4 := by
  obtain ⟨s', p', y, a, c, og2, sv', kv', og', r1, r2, rfl, r4, r5, r6, r7, r8, r9, r10, r11, r12⟩ := hG
  obtain ⟨q1, q2, q3⟩ := rf_next (z := z) h4 h.at_ r1 r2
  have hrb := h.bl rb h.br
  have hs3 := f3.size
  have hs4 := r11.size
  have hto : toldOf most x z = s'.out.drop (rf most x).1.out.length := by unfold toldOf; rw [q1]
  have hkl : kl most (x ++ z) = if y = 4 ∨ y = 0 then kpt (kpt x (pos most x) ++ z) p' else [] := by
    unfold kl
    rw [q1, ← q2]
  have hlen : (toldOf most x z).length = s'.out.length - (rf most x).1.out.length := by rw [hto, List.length_drop]
  have h00 : 0 < w.heap.size := by have := hrb.1; omega
  refine ⟨a, c, tk + z.length, sv', kv', og', fun k => (B k ∨ w.heap.size ≤ k) ∧ k < w4.heap.size ∧ ¬ Kt w4 k ∧ k ≠ 0 ∧ og2 ≠ some k, by rw [hlen, q1], ⟨og2, by rw [hlen, hto]; exact r6, fun g hg => ⟨fun hn => hn.2.2.2.2 hg, r6.lt g hg, ?_⟩⟩, ⟨by rw [q1]; exact r5, ⟨.inl h.br, by omega, kt_no r5 (by decide) (by decide) (by decide), hrb.2.2, fun e => (r12 rb e).1 rfl⟩, fun k hk => ⟨hk.2.1, hk.2.2.1, hk.2.2.2.1⟩, by rw [hkl]; exact r7, fun g hg => ?_, fun _ => by rw [h.tl (.inl h4), List.length_append], fun e => ?_, fun e => r10 (by rw [q1] at e; exact e), h.ml, by rw [q1]⟩, fun k hk => hk.1, ?_, by rw [if_pos (.inl h4)], told_app⟩
  · rcases (r12 g hg).2.2.2 with h1 | h1
    · exact .inl (how g h1).1
    · exact .inr (by omega)
  · have h1 := r8 g hg
    have h2 : g < w4.heap.size := r7.lt g hg
    exact ⟨⟨.inr (by omega), h2, og_no r7 g hg, by omega, fun e => (r12 g e).2.2.1 hg⟩, by omega⟩
  · rw [q1] at e
    obtain ⟨e1, m', lf, e2, e3, e4, e5⟩ := r9 e
    refine ⟨sb, m', lf, e1, by rw [q1, q3]; exact e2, e3, ?_, ⟨.inl hsb, e2.lts, e2.ks, (h.bl sb hsb).2.2, fun e => (r12 sb e).2.1 rfl⟩, hsr, fun hh => ?_, fun g hg => ?_⟩
    · rw [q1, q3]
      have hmod : skp (kpt x (pos most x) ++ z) p' % 8 = p' % 8 := by unfold skp lft; omega
      exact ⟨e4.1, fun hh => ⟨(e4.2 hh).1, (e4.2 hh).2.1, (e4.2 hh).2.2.1, by rw [hmod]; exact (e4.2 hh).2.2.2⟩⟩
    · have h1 := r8 sb hh
      have := (h.bl sb hsb).1
      omega
    · obtain ⟨h1, h2, h2b⟩ := e5 g hg
      have h3 := e2.win.lt g hg
      rcases h1 with h1 | h1
      · exact ⟨⟨.inl (how g h1).1, h3, (e2.nw g hg).1, (h.bl g (how g h1).1).2.2, h2b⟩, (how g h1).2, h2⟩
      · exact ⟨⟨.inr (by omega), h3, (e2.nw g hg).1, by omega, h2b⟩, by omega, h2⟩
  · refine (f3.mono (fun k hk => .inl (by rw [hk]; exact h.br))).then r11 (fun k hk => .inl ?_)
    rcases hk with rfl | rfl | hk
    · exact h.br
    · exact hsb
    · exact (how k hk).1
end Go.Proofs.YtincbbnppcpfpaaDoor

namespace Go.Proofs.YtincbbnppcpfpaaDoor
open Go.RowKit
set_option linter.unusedVariables false
variable {rb most tk : Nat} {B : Nat → Prop} {x z : List By} {sv kv : Value} {og : Option Nat} {w : World}
theorem Sl.later' {V W : World} {v : Value} {b : List By} {X : Nat → Prop} (h : Old w v b) (f : Fr X w V) (hN : Nw V W) (hx : ∀ g, g < w.heap.size → SlB g v b w → ¬ X g) : Old W v b := by
  rcases h with h | ⟨g, g1, g2⟩
  · exact .inl h
  · have h1 : g < w.heap.size := by omega
    have := f.size
    have := hN.size
    exact .inr ⟨g, by omega, (g2.kept f (hx g h1 g2)).kept hN (fun h => h)⟩
set_option maxHeartbeats 16000000 in
set_option maxRecDepth 100000 in
theorem kfeed_live (h : RdI rb B most x tk sv kv og w) (vz : Value) (hz : Old w vz z) (hbl : x.length + z.length ≤ 140737488351232) (hT : Tab w) (hzr : ∀ g, SlB g vz z w → ¬ B g) (h4 : (rf most x).2.2 = 4) :
    Calls Tryd.prog 29 #[.pointer (some ⟨rb, 0, none⟩), vz] w (Fed rb B most x z tk w) := by
  obtain ⟨P, hP⟩ : ∃ P : Ending → World → Prop, P = Fed rb B most x z tk w := ⟨_, rfl⟩
  rw [← hP]
  have hrow := h.row
  rw [h4] at hrow
  obtain ⟨sb, m, lf, rfl, hS, hop, hBd, hsb, hsr, hos, how⟩ := h.live h4
  have htk := h.tl (.inl h4)
  have hpx : pos most x ≤ 8 * x.length := by unfold pos; omega
  have hkk : kl most x = kpt x (pos most x) := by unfold kl; rw [if_pos (.inl h4)]
  have hkn := kpt_length x _ hpx
  have hll := lft_le x _ hpx
  have hkp := h.kp
  rw [hkk] at hkp
  obtain ⟨ka, kc, rfl, _, _⟩ := hkp.form
  obtain ⟨za, zc, rfl, _, _⟩ := hz.form
  have hrb := h.bl rb h.br
  obtain ⟨TZ, hTZ⟩ : ∃ TZ, TZ = tk + z.length := ⟨_, rfl⟩
  have hTb : TZ ≤ 140737488351232 := by omega
  obtain ⟨W1, hW1⟩ : ∃ W1, w.setCell ⟨rb, 2, none⟩ (.int .i64 (TZ : Int)) = W1 := ⟨_, rfl⟩
  have f1 : Fr (fun k => k = rb) w W1 := by rw [← hW1]; exact (Fr.refl _ _).setCell _ _ (.inl rfl)
  have row1 : W1.heap[rb]? = some (.cells #[.pointer (some ⟨sb, 0, none⟩), .slice ka (kpt x (pos most x)).length kc, .int .i64 (TZ : Int), .int .i64 4] 71) := by rw [← hW1]; exact row_set hrow 2 _
  obtain ⟨W2, hW2⟩ : ∃ W2, W1.alloc (.cells #[.slice ka (kpt x (pos most x)).length kc, .slice za z.length zc] 22) = W2 := ⟨_, rfl⟩
  have hN2 : Nw W1 W2 := by rw [← hW2]; exact (Fr.refl _ _).alloc _
  have row2 : W2.heap[W1.heap.size]? = some (.cells #[.slice ka (kpt x (pos most x)).length kc, .slice za z.length zc] 22) := by rw [← hW2]; exact new_heap _ _
  have hg2 : W1.heap.size < W2.heap.size := (Array.getElem?_eq_some_iff.1 row2).1
  have hso : ∀ g, og = some g → ¬ g = rb := fun g hg => (h.ko g hg).2
  have hk2 : Old W2 (.slice ka (kpt x (pos most x)).length kc) (kpt x (pos most x)) := og_old ((hkp.kept f1 hso).nw hN2)
  have HCC : Hid (Calls Tryd.prog 42 #[.slice (some ⟨W1.heap.size, 0, none⟩) 2 2] W2 fun e w3 => ∃ a' T c', e = .returned (.slice a' T c') ∧ Hid (Calls Tryd.prog 41 #[.pointer (some ⟨rb, 0, none⟩), .slice a' T c'] w3 fun e w4 => ∃ a n c y, e = .returned (.tuple #[.slice a n c, .int .i64 y]) ∧ Hid (P e w4))) := by
    show Calls _ _ _ _ _
    refine (concat_any W2 W1.heap.size _ _ (kpt x (pos most x)) z hg2 (row_cell row2 0 _ rfl).1 (row_cell row2 1 _ rfl).1 hk2 (Sl.later' hz f1 hN2 (fun g _ hg e => hzr g hg (e ▸ h.br))) (by omega)).mono ?_
    rintro e w3 ⟨a', c', rfl, hM, hN3⟩
    refine ⟨a', _, c', rfl, ?_⟩
    have f3 : Fr (fun k => k = rb) w w3 := (f1.trans hN2.any).trans hN3.any
    have row3 : w3.heap[rb]? = some (.cells #[.pointer (some ⟨sb, 0, none⟩), .slice ka (kpt x (pos most x)).length kc, .int .i64 TZ, .int .i64 4] 71) := hN3.heap (hN2.heap row1)
    have hS3 := (hS.keep f3 hsr (fun k hk e => hrb.2.1 (e ▸ hk)) (fun g hg e => (how g hg).2.1 e) (fun g hg => by rw [hop] at hg; cases hg)).typed
    have hs2 := f1.size
    show Calls _ _ _ _ _
    refine (kgoon_any row3 hS3 hop (b := kpt x (pos most x) ++ z) ?_ (by rw [List.length_append]; omega) (skp_le _ _) (by rw [List.length_append]; unfold skp; omega) hBd (hT.kept f3 (fun e => hrb.2.2 e.symm)) (fun e => hsr e.symm) (fun e => (how rb e).2.1 rfl) ⟨fun e => (h.bl sb hsb).2.2 e.symm, fun e => (h.bl 0 (how 0 e).1).2.2 rfl⟩).mono ?_
    · rcases hM with ⟨e1, e2⟩ | ⟨g, e1, e2⟩
      · exact .inl ⟨e1, e2⟩
      · have hW2s := hN2.size
        refine .inr ⟨g, fun e => ?_, fun e => ?_, fun e => ?_, e2⟩
        · have := (h.bl sb hsb).1; omega
        · have := (h.bl g (how g e).1).1; omega
        · have := hrb.1; omega
    · intro e w4 hG
      rw [hTZ] at hG
      have hF := fed_live h h4 hsb hsr (fun g hg => ⟨(how g hg).1, (how g hg).2.1⟩) f3 hG
      obtain ⟨s', p', y, a, c, _, _, _, _, _, _, rfl, _⟩ := hG
      exact ⟨a, _, c, _, rfl, by rw [hP]; exact hF⟩
  have c3 := (row_cell hrow 3 _ rfl).1
  have c2 := (row_cell hrow 2 _ rfl).1
  have c2f := (row_cell hrow 2 (.int .i64 tk) rfl).2
  have c1 := (row_cell row1 1 _ rfl).1
  generalize (kpt x (pos most x)).length = KL at *
  generalize z.length = Z at *
  have hs : (tk : Int) + (Z : Int) = (TZ : Int) := by omega
  clear hTZ
  have htb : tk ≤ 140737488351232 := by omega
  clear hP h hrow hS hop hBd hsb hsr hos how htk hkk hkn hll hkp hz hrb f1 row1 hN2 row2 hg2 hso hk2 hT hpx h4
  go_enter Tryd.func29, Tryd.ntmps29
  go_wp2_with (first | (go_at_call 42; (with_reducible refine HCC.out.mono ?_); rintro e w3 ⟨a', T, c', rfl, HG⟩) | (go_at_call 41; (with_reducible refine HG.out.mono ?_); rintro e w4 ⟨a, n, c, y, rfl, HF⟩))
  exact HF.out
end Go.Proofs.YtincbbnppcpfpaaDoor

namespace Go.Proofs.YtincbbnppcpfpaaDoor
open Go.RowKit
set_option linter.unusedVariables false
variable {rb most tk : Nat} {B : Nat → Prop} {x z : List By} {sv kv : Value} {og : Option Nat} {w : World}
theorem told_none (h0 : (rf most x).2.2 ≠ 4) (hat : (rf most x).2.1 = bt x (pos most x)) : toldOf most x z = [] := by
  unfold toldOf
  rw [(rf_over (z := z) h0 hat).1, List.drop_length]
/-- Behind the end: the piece is kept. -/
theorem fed_done (h : RdI rb B most x tk sv kv og w) (h0 : (rf most x).2.2 = 0) {v' : Value} {og' : Option Nat} {W : World} (hW : W.heap[rb]? = some (.cells #[.pointer none, v', .int .i64 ((tk + z.length : Nat) : Int), .int .i64 0] 71)) (hk : Og og' v' (kl most x ++ z) W) (hn : ∀ g, og' = some g → (B g ∨ w.heap.size ≤ g) ∧ g ≠ rb) (f : Fr B w W) (V : World) (hV : Nw W V) : Fed rb B most x z tk w (.returned (.tuple #[.slice none 0 0, .int .i64 0])) V := by
  obtain ⟨q1, q2, q3, q4⟩ := rf_over (z := z) (by omega : (rf most x).2.2 ≠ 4) h.at_
  have ht := told_none (z := z) (by omega : (rf most x).2.2 ≠ 4) h.at_
  have hrb := h.bl rb h.br
  have hs := f.size
  have hsV := hV.size
  have hkV := hk.nw hV
  have hy : (rf most (x ++ z)).2.2 = 0 := q2.trans h0
  refine ⟨none, 0, tk + z.length, .pointer none, v', og', fun k => (B k ∨ w.heap.size ≤ k) ∧ k < V.heap.size ∧ ¬ Kt V k ∧ k ≠ 0, by rw [ht, hy, if_neg (by decide)]; rfl, ⟨none, by rw [ht]; exact ⟨rfl, rfl⟩, fun g hg => by cases hg⟩, ⟨by rw [hy]; exact hV.heap hW, ⟨.inl h.br, by omega, kt_no (hV.heap hW) (by decide) (by decide) (by decide), hrb.2.2⟩, fun k hk => hk.2, by rw [q4 h0]; exact hkV, fun g hg => ?_, fun _ => by rw [h.tl (.inr h0), List.length_append], fun e => by omega, fun _ => rfl, h.ml, q3⟩, fun k hk => hk.1, f.trans hV.any, by rw [if_pos (.inr h0)], told_app⟩
  obtain ⟨h1, h2⟩ := hn g hg
  have h3 := hkV.lt g hg
  refine ⟨⟨h1, h3, og_no hkV g hg, ?_⟩, h2⟩
  rcases h1 with h1 | h1
  · exact (h.bl g h1).2.2
  · have := hrb.1; omega
/-- Behind an error: nothing. -/
theorem fed_dead (h : RdI rb B most x tk sv kv og w) (h0 : (rf most x).2.2 ≠ 0) (h4 : (rf most x).2.2 ≠ 4) (V : World) (hV : Nw w V) : Fed rb B most x z tk w (.returned (.tuple #[.slice none 0 0, .int .i64 ((rf most x).2.2 : Nat)])) V := by
  obtain ⟨q1, q2, q3, q4⟩ := rf_over (z := z) h4 h.at_
  have ht := told_none (z := z) h4 h.at_
  have h' := h.keep hV (fun _ _ e => e) (fun _ _ e => e)
  have hkl : kl most (x ++ z) = kl most x := by
    unfold kl
    rw [q2, if_neg (by omega), if_neg (by omega)]
  refine ⟨none, 0, tk, sv, kv, og, B, by rw [ht, q2, if_neg h4]; rfl, ⟨none, by rw [ht]; exact ⟨rfl, rfl⟩, fun g hg => by cases hg⟩, ⟨by rw [q2]; exact h'.row, h'.br, h'.bl, by rw [hkl]; exact h'.kp, h'.ko, fun e => by rw [q2] at e; omega, fun e => by rw [q2] at e; omega, fun e => h'.dead h4, h'.ml, q3⟩, fun k hk => .inl hk, hV.any, by rw [if_neg (by omega)], told_app⟩
set_option maxHeartbeats 16000000 in
set_option maxRecDepth 100000 in
theorem kfeed_dead (h : RdI rb B most x tk sv kv og w) (vz : Value) (hz : Old w vz z) (h0 : (rf most x).2.2 ≠ 0) (h4 : (rf most x).2.2 ≠ 4) : Calls Tryd.prog 29 #[.pointer (some ⟨rb, 0, none⟩), vz] w (Fed rb B most x z tk w) := by
  obtain ⟨P, hP⟩ : ∃ P : Ending → World → Prop, P = Fed rb B most x z tk w := ⟨_, rfl⟩
  rw [← hP]
  have HD : Hid (Calls Tryd.prog 20 #[.pointer (some ⟨rb, 0, none⟩)] w fun e w' => e = .returned (.bool (decide ((rf most x).2.2 = 0))) ∧ w = w') := kdone_any h
  rw [decide_eq_false h0] at HD
  have c3 := (row_cell h.row 3 _ rfl).1
  have HF : Hid (∀ V, Nw w V → P (.returned (.tuple #[.slice none 0 0, .int .i64 ((rf most x).2.2 : Nat)])) V) := fun V hV => by rw [hP]; exact fed_dead h h0 h4 V hV
  obtain ⟨za, zc, rfl, _, _⟩ := hz.form
  clear hP h hz
  generalize (rf most x).2.2 = y at *
  generalize z.length = Z at *
  have hz4 : ((y : Int) == 4) = false := by simp only [beq_eq_false_iff_ne, ne_eq]; omega
  go_enter Tryd.func29, Tryd.ntmps29
  go_wp2_with (first | (go_at_call 20; (with_reducible refine HD.out.mono ?_); rintro e w1 ⟨rfl, rfl⟩))
  go_quiet (fail)
  all_goals go_wp2_with fail
  all_goals (first | exact HF.out _ (Fr.refl _ _) | exact HF.out _ (Fr.refl _ _).drew | exact HF.out _ ((Fr.refl _ _).drewN _))
set_option maxHeartbeats 16000000 in
set_option maxRecDepth 100000 in
theorem kfeed_done (h : RdI rb B most x tk sv kv og w) (vz : Value) (hz : Old w vz z) (hbl : x.length + z.length ≤ 140737488351232) (hzr : ∀ g, SlB g vz z w → ¬ B g) (h0 : (rf most x).2.2 = 0) : Calls Tryd.prog 29 #[.pointer (some ⟨rb, 0, none⟩), vz] w (Fed rb B most x z tk w) := by
  obtain ⟨P, hP⟩ : ∃ P : Ending → World → Prop, P = Fed rb B most x z tk w := ⟨_, rfl⟩
  rw [← hP]
  have HD : Hid (Calls Tryd.prog 20 #[.pointer (some ⟨rb, 0, none⟩)] w fun e w' => e = .returned (.bool (decide ((rf most x).2.2 = 0))) ∧ w = w') := kdone_any h
  rw [decide_eq_true h0] at HD
  have hrow := h.row
  obtain rfl := h.dead (by omega)
  rw [h0] at hrow
  have htk := h.tl (.inr h0)
  have hkn := kl_len (.inr h0)
  have hll := lft_le x (pos most x) (by unfold pos; omega)
  have hkp := h.kp
  obtain ⟨ka, kc, rfl, _, _⟩ := hkp.form
  obtain ⟨za, zc, rfl, _, _⟩ := hz.form
  have hrb := h.bl rb h.br
  obtain ⟨TZ, hTZ⟩ : ∃ TZ, TZ = tk + z.length := ⟨_, rfl⟩
  have hTb : TZ ≤ 140737488351232 := by omega
  obtain ⟨W1, hW1⟩ : ∃ W1, w.setCell ⟨rb, 2, none⟩ (.int .i64 (TZ : Int)) = W1 := ⟨_, rfl⟩
  have f1 : Fr (fun k => k = rb) w W1 := by rw [← hW1]; exact (Fr.refl _ _).setCell _ _ (.inl rfl)
  have row1 : W1.heap[rb]? = some (.cells #[.pointer none, .slice ka (kl most x).length kc, .int .i64 (TZ : Int), .int .i64 0] 71) := by rw [← hW1]; exact row_set hrow 2 _
  have hk1 := hkp.kept f1 (fun g hg => (h.ko g hg).2)
  obtain ⟨v', og', W2, hap, hO2, hF2, hwe⟩ := og_app W1 og _ _ hk1 (.slice za z.length zc) z ((Sl.later' hz f1 (Fr.refl _ _) (fun g _ hg e => hzr g hg (e ▸ h.br))).mono (fun _ h => h.elim)) (by omega)
  obtain ⟨va, vc, rfl, _, _⟩ := hO2.form
  have row2 : W2.heap[rb]? = some (.cells #[.pointer none, .slice ka (kl most x).length kc, .int .i64 (TZ : Int), .int .i64 0] 71) := (hF2.block rb (by have := f1.size; omega) (fun e => (h.ko rb e).2 rfl)).trans row1
  obtain ⟨W3, hW3⟩ : ∃ W3, W2.setCell ⟨rb, 1, none⟩ (.slice va (kl most x ++ z).length vc) = W3 := ⟨_, rfl⟩
  have f3 : Fr (fun k => k = rb) W2 W3 := by rw [← hW3]; exact (Fr.refl _ _).setCell _ _ (.inl rfl)
  have row3 : W3.heap[rb]? = some (.cells #[.pointer none, .slice va (kl most x ++ z).length vc, .int .i64 (TZ : Int), .int .i64 0] 71) := by rw [← hW3]; exact row_set row2 1 _
  have hs1 := f1.size
  have hog : ∀ g, og' = some g → (B g ∨ w.heap.size ≤ g) ∧ g ≠ rb := fun g hg => by
    rcases hwe with e | ⟨g', e, hg'⟩
    · have := h.ko g (by rw [← e]; exact hg)
      exact ⟨.inl this.1, this.2⟩
    · rw [e] at hg
      injection hg with hg
      subst hg
      have := hrb.1
      exact ⟨.inr (by omega), by omega⟩
  have HF : Hid (∀ V, Nw W3 V → P (.returned (.tuple #[.slice none 0 0, .int .i64 0])) V) := fun V hV => by
    rw [hP]
    rw [hTZ] at row3
    refine fed_done h h0 row3 (hO2.kept f3 (fun g hg => (hog g hg).2)) hog ?_ V hV
    exact ((f1.mono (fun k hk => .inl (by rw [hk]; exact h.br))).then hF2 (fun k hk => .inl (h.ko k hk).1)).then f3 (fun k hk => .inl (by rw [hk]; exact h.br))
  have HAP : Hid (∀ ty, (Builtin.append_ #[22, 22] ty #[.slice ka (kl most x).length kc, .slice za z.length zc]).run Tryd.prog W1 = .ok (.slice va (kl most x ++ z).length vc) W2) := hap
  have c3 := (row_cell hrow 3 _ rfl).1
  have c2 := (row_cell hrow 2 _ rfl).1
  have c2f := (row_cell hrow 2 (.int .i64 tk) rfl).2
  have c1 := (row_cell row1 1 _ rfl).1
  have d1 := (row_cell row2 1 _ rfl).1
  have d1f := (row_cell row2 1 (.slice ka (kl most x).length kc) rfl).2
  have e3 := (row_cell row3 3 _ rfl).1
  generalize (kl most x ++ z).length = NL at *
  generalize (kl most x).length = KL at *
  generalize z.length = Z at *
  have hs : (tk : Int) + (Z : Int) = (TZ : Int) := by omega
  have htb : tk ≤ 140737488351232 := by omega
  clear hP h hrow htk hkn hll hkp hz hrb f1 row1 hk1 hap hO2 hF2 hwe row2 f3 row3 hog hTZ h0
  go_enter Tryd.func29, Tryd.ntmps29
  go_wp2_with (first | (go_at_call 20; (with_reducible refine HD.out.mono ?_); rintro e w1 ⟨rfl, rfl⟩) | (at_builtin; refine Lib.wpList_append_run _ rfl _ _ 22 22 rfl (.slice ka KL kc) (.slice za Z zc) (by simp [Act.eval]) (by simp [Act.eval]) _ _ (HAP.out _) ?_))
  go_quiet (fail)
  all_goals go_wp2_with fail
  all_goals (first | exact HF.out _ (Fr.refl _ _) | exact HF.out _ (Fr.refl _ _).drew | exact HF.out _ ((Fr.refl _ _).drewN _))
/-- Feed. -/
theorem kfeed_any (h : RdI rb B most x tk sv kv og w) (vz : Value) (hz : Old w vz z) (hbl : x.length + z.length ≤ 140737488351232) (hT : Tab w) (hzr : ∀ g, SlB g vz z w → ¬ B g) :
    Calls Tryd.prog 29 #[.pointer (some ⟨rb, 0, none⟩), vz] w (Fed rb B most x z tk w) := by
  by_cases h4 : (rf most x).2.2 = 4
  · exact kfeed_live h vz hz hbl hT hzr h4
  · by_cases h0 : (rf most x).2.2 = 0
    · exact kfeed_done h vz hz hbl hzr h0
    · exact kfeed_dead h vz hz h0 h4
end Go.Proofs.YtincbbnppcpfpaaDoor

namespace Go.Proofs.YtincbbnppcpfpaaDoor
open Go.RowKit
set_option linter.unusedVariables false
variable {m rb : Nat} {b : List By} {w : World}
theorem take_tk (b : List By) (f t : Nat) (h : f ≤ t) : b.take f ++ (b.drop f).take (t - f) = b.take t := by
  have : t = f + (t - f) := by omega
  rw [this, List.take_add]
  congr 2; omega
theorem old_cut {a : Option Addr} {c : Nat} (h : Old w (.slice a b.length c) b) (f k : Nat) (hfk : f + k ≤ b.length) : (c = f → ∀ a2, Old w (.slice a2 k 0) ((b.drop f).take k)) ∧ ∀ g o, a = some ⟨g, o, none⟩ → Old w (.slice (some ⟨g, o + f, none⟩) k (c - f)) ((b.drop f).take k) := by
  have hlen : ((b.drop f).take k).length = k := by rw [List.length_take, List.length_drop]; omega
  rcases h with ⟨a', e, rfl⟩ | ⟨g, g1, o, c', e, h1, h2, h3⟩
  · injection e with e1 _ e3
    simp only [List.length_nil] at hfk
    obtain rfl : f = 0 := by omega
    obtain rfl : k = 0 := by omega
    refine ⟨fun _ a2 => .inl ⟨a2, rfl, by simp⟩, fun g o _ => .inl ⟨_, by rw [e3], by simp⟩⟩
  · injection e with e1 _ e3
    subst e1 e3
    refine ⟨fun hc a2 => ?_, fun g' o' he => ?_⟩
    · obtain rfl : k = 0 := by omega
      exact .inl ⟨a2, rfl, List.eq_nil_of_length_eq_zero hlen⟩
    · injection he with he
      injection he with he1 he2
      subst he1 he2
      exact .inr ⟨g, g1, o + f, c - f, by rw [hlen], by omega, by omega, (h3.drop f).take k⟩
/-- What a reader's answer is called: nothing, while the stream goes on. -/
noncomputable def whyOf (m : Nat) (x : List By) : Nat := if (rf m x).2.2 = 4 then 0 else (rf m x).2.2
/-- How fed's loop stands: so many bytes were fed. -/
def FdL (w : World) (b : List By) (m rb : Nat) (frm : Nat) (vo : Value) (wr : World) : Prop :=
  ∃ B tk sv kv og oo, RdI rb B m (b.take frm) tk sv kv og wr ∧ Og oo vo (rf m (b.take frm)).1.out wr ∧ (∀ g, oo = some g → ¬ B g ∧ w.heap.size ≤ g) ∧ (∀ k, B k → w.heap.size ≤ k) ∧ Nw w wr
theorem fdl_start (hT : Tab w) {w1 : World} (h : RdI rb (fun k => k = w.heap.size ∨ k = w.heap.size + 1) m [] 0 (.pointer (some ⟨w.heap.size, 0, none⟩)) (.slice none 0 0) none w1) (hN : Nw w w1) : FdL w b m rb 0 (.slice none 0 0) w1 := by
  refine ⟨_, _, _, _, _, none, by rw [List.take_zero]; exact h, ?_, fun g hg => (by cases hg), fun k hk => by omega, hN⟩
  rw [List.take_zero, rf_nil]
  exact ⟨rfl, rfl⟩
theorem rf_out (m : Nat) (x : List By) : (rf m x).1.out.length ≤ m := by
  have hi : Iv m (bt x 0) ini := ⟨by simp [ini], fun e => by simp [ini] at e, fun e => by simp [ini] at e⟩
  exact (run_ad ini (bt x 0) hi).1.ol
theorem fdl_step {frm til : Nat} {vo : Value} {wr : World} (h : FdL w b m rb frm vo wr) (hft : frm ≤ til) (htl : til ≤ b.length) (hbl : b.length ≤ 140737488351232) (hm : m ≤ 4194304) (hT : Tab w) (vs : Value) (hs : Old wr vs ((b.drop frm).take (til - frm))) :
    ∃ g1 c1 W1, Hid (∀ ty, (Builtin.append_ #[22, 22] ty #[.slice (some ⟨wr.heap.size, 0, none⟩) 0 0, vs]).run Tryd.prog (wr.alloc (.cells #[] 5)) = .ok (.slice (some ⟨g1, 0, none⟩) (til - frm) c1) W1) ∧
      Hid (Calls Tryd.prog 29 #[.pointer (some ⟨rb, 0, none⟩), .slice (some ⟨g1, 0, none⟩) (til - frm) c1] W1 fun e w2 => ∃ a n c, e = .returned (.tuple #[.slice a n c, .int .i64 (whyOf m (b.take til) : Nat)]) ∧ ∃ va vn vc W3, Hid (∀ ty, (Builtin.append_ #[22, 22] ty #[vo, .slice a n c]).run Tryd.prog w2 = .ok (.slice va vn vc) W3) ∧ Hid (FdL w b m rb til (.slice va vn vc) W3)) := by
  obtain ⟨B, tk, sv, kv, og, oo, h1, h2, h3, h4, h5⟩ := h
  have hlz : ((b.drop frm).take (til - frm)).length = til - frm := by rw [List.length_take, List.length_drop]; omega
  obtain ⟨g1, c1, W1, hap, hO, hg1, hN1⟩ := copyB wr vs _ hs (by omega)
  rw [hlz] at hap hO
  refine ⟨g1, c1, W1, hap, ?_⟩
  have hR1 := h1.keep hN1 (fun _ _ e => e) (fun _ _ e => e)
  have hx : (b.take frm).length + ((b.drop frm).take (til - frm)).length ≤ 140737488351232 := by rw [hlz, List.length_take]; omega
  show Calls _ _ _ _ _
  refine (kfeed_any hR1 _ (z := (b.drop frm).take (til - frm)) hO.old hx (hT.kept (h5.trans hN1) (fun e => e)) (fun g hg hB => ?_)).mono ?_
  · obtain ⟨o', c', e, _⟩ := hg
    injection e with e
    injection e with e
    injection e with e
    subst e
    have := (h1.bl g1 hB).1
    omega
  · rintro e w2 ⟨a, c, tk', sv', kv', og', B', rfl, ⟨ogt, r2', _⟩, r3, r4, r5, r6, r7⟩
    have r2 := og_old r2'
    have hcat := take_tk b frm til hft
    rw [hcat] at r3 r7
    refine ⟨a, _, c, by rw [hcat]; rfl, ?_⟩
    have hb1 := rf_out m (b.take til)
    rw [← r7, List.length_append] at hb1
    have hs1 := hN1.size
    have hs2 := r5.size
    have ho2 := (h2.nw hN1).kept r5 (fun g hg => (h3 g hg).1)
    obtain ⟨v', oo', W3, hap3, hO3, hF3, hwe⟩ := og_app w2 oo vo _ ho2 _ _ (r2.mono (fun _ h => h.elim)) (by omega)
    obtain ⟨va, vc, rfl, _, _⟩ := hO3.form
    rw [r7] at hO3 hap3
    have hnb : ∀ k, B' k → ¬ oo = some k := fun k hk e => by
      rcases r4 k hk with hB | hB
      · exact (h3 k e).1 hB
      · have := h2.lt k e; omega
    have hR3 := r3.keep hF3 hnb (fun k hk e => og_no ho2 k e hk)
    refine ⟨va, _, vc, W3, hap3, B', tk', sv', kv', og', oo', hR3, hO3, fun g hg => ?_, fun k hk => ?_, ?_⟩
    · rcases hwe with e | ⟨g', e, hg'⟩
      · have := h3 g (by rw [← e]; exact hg)
        exact ⟨fun hB => hnb g hB (by rw [← e]; exact hg), this.2⟩
      · rw [e] at hg
        injection hg with hg
        subst hg
        refine ⟨fun hB => ?_, ?_⟩
        · have := (r3.bl _ hB).1; omega
        · have := h5.size; omega
    · rcases r4 k hk with hB | hB
      · exact h4 k hB
      · have := h5.size; omega
    · exact Fr.then (Fr.then (h5.trans hN1) r5 (fun k hk => .inr (h4 k hk))) hF3 (fun k hk => .inr (h3 k hk).2)
end Go.Proofs.YtincbbnppcpfpaaDoor
