import Derived.Test.YtpjnbhflnbhnoaaGreatDoorWbp
import Derived.BigQuiet
namespace Go.Proofs.YtpjnbhflnbhnoaaGreatDoor
open Go.RowKit
set_option linter.unusedVariables false
/-! ### GzipOnes: what a member takes, zeros, the members' order -/
def Hz.from {α : Type} (q : Nat) (r : Hz α) : Prop := ∀ a n, r = .ok a n → q ≤ n
theorem Hz.from_bind {α β : Type} {q q' : Nat} {r : Hz α} {f : α → Nat → Hz β} (h : r.from q) (hf : ∀ a p, q ≤ p → (f a p).from q') : (r.bind f).from q' := by
  cases r with
  | bad y => exact fun a n e => by simp only [Hz.bind] at e; cases e
  | ok a p => exact hf a p (h a p rfl)
theorem from_must {q : By → Bool} {why : Nat} (b : List By) (p : Nat) {k : Nat} (hk : k ≤ p + 1) : (mustH q why b p).from k := by
  intro y n e
  unfold mustH at e
  cases hx : b[p]? with
  | none => rw [hx] at e; cases e
  | some x =>
    rw [hx] at e
    simp only at e
    split at e
    · injection e with _ e; omega
    · cases e
theorem from_take (m : Nat) (b : List By) (p : Nat) {k : Nat} (hk : k ≤ p + m) : (takeH m b p).from k := by
  intro y n e
  unfold takeH at e
  split at e
  · injection e with _ e; omega
  · cases e
theorem from_ok {α : Type} (a : α) (p : Nat) {k : Nat} (hk : k ≤ p) : (Hz.ok a p).from k := fun _ n e => by injection e with _ e; omega
theorem from_text (b : List By) (p : Nat) {k : Nat} (hk : k ≤ p) : (textH b p).from k := by
  intro y n e
  unfold textH at e
  split at e
  · split at e <;> cases e
  · injection e with _ e; omega
theorem from_tx (c : Bool) (b : List By) (p : Nat) {k : Nat} (hk : k ≤ p) : (txH c b p).from k := by
  unfold txH
  split
  · exact from_text b p hk
  · exact from_ok _ _ hk
theorem from_sum (b : List By) (p : Nat) {k : Nat} (hk : k ≤ p) : (sumH b p).from k := by
  unfold sumH
  exact Hz.from_bind (from_must b p (k := k) (by omega)) (fun _ p1 h1 => Hz.from_bind (from_must b p1 (k := k) (by omega)) (fun _ p2 h2 => from_ok _ _ h2))
theorem from_sm (c : Bool) (b : List By) (p : Nat) {k : Nat} (hk : k ≤ p) : (smH c b p).from k := by
  unfold smH
  split
  · exact from_sum b p hk
  · exact from_ok _ _ hk
theorem from_ex (f : By) (b : List By) (p : Nat) {k : Nat} (hk : k ≤ p) : (exH f b p).from k := by
  unfold exH
  split
  · exact Hz.from_bind (from_take 2 b p (k := k) (by omega)) (fun n p1 h1 => from_take _ b p1 (by omega))
  · exact from_ok _ _ hk
theorem head_ten {b : List By} {m : Md} {n : Nat} (h : headH b 0 = .ok m n) : 10 ≤ n := by
  refine (?_ : (headH b 0).from 10) m n h
  unfold headH
  refine Hz.from_bind (from_must b 0 (k := 1) (by omega)) (fun _ p1 i1 => ?_)
  refine Hz.from_bind (from_must b p1 (k := 2) (by omega)) (fun _ p2 i2 => ?_)
  refine Hz.from_bind (from_must b p2 (k := 3) (by omega)) (fun _ p3 i3 => ?_)
  refine Hz.from_bind (from_must b p3 (k := 4) (by omega)) (fun f p4 i4 => ?_)
  unfold h1
  refine Hz.from_bind (from_take 4 b p4 (k := 8) (by omega)) (fun t p5 i5 => ?_)
  refine Hz.from_bind (from_must b p5 (k := 9) (by omega)) (fun x p6 i6 => ?_)
  refine Hz.from_bind (from_must b p6 (k := 10) (by omega)) (fun y p7 i7 => ?_)
  unfold h2
  refine Hz.from_bind (from_ex f b p7 i7) (fun ex p8 i8 => ?_)
  unfold h3
  refine Hz.from_bind (from_tx _ b p8 i8) (fun nm p9 i9 => ?_)
  unfold h4
  refine Hz.from_bind (from_tx _ b p9 i9) (fun cm p10 i10 => ?_)
  unfold h5
  exact Hz.from_bind (from_sm _ b p10 i10) (fun _ p11 i11 => from_ok _ _ i11)
theorem one_18 {b : List By} {most : Int} {o : List By} {m : Md} {n : Nat} (h : oneZ b most = .ok o m n) : 18 ≤ n := by
  unfold oneZ at h
  split at h
  · cases h
  · split at h
    · cases h
    · rename_i m' n' hh
      have := head_ten hh
      split at h
      · cases h
      · split at h
        · cases h
        · injection h with _ _ h
          omega
theorem zlen_iff (b : List By) (p : Nat) : ∀ n, zlen b n ≤ p ↔ ∀ i, p ≤ i → i < n → b.getD i 0#8 = 0#8
  | 0 => by simp [zlen]
  | n + 1 => by
    unfold zlen
    split
    · rename_i h
      rw [zlen_iff b p n]
      constructor
      · intro hh i h1 h2
        by_cases e : i = n
        · rw [e]; exact h
        · exact hh i h1 (by omega)
      · exact fun hh i h1 h2 => hh i h1 (by omega)
    · rename_i h
      constructor
      · intro h1 i h2 h3; omega
      · intro hh
        by_cases hp : n + 1 ≤ p
        · exact hp
        · exact absurd (hh n (by omega) (by omega)) h
theorem drop_zero {b : List By} {p : Nat} : (¬ p < zlen b b.length) ↔ ∀ i, i < (b.drop p).length → (b.drop p).getD i 0#8 = 0#8 := by
  rw [Nat.not_lt, zlen_iff]
  constructor
  · intro h i hi
    rw [List.length_drop] at hi
    have := h (p + i) (by omega) (by omega)
    rw [List.getD_eq_getElem?_getD] at this ⊢
    rw [List.getElem?_drop]; exact this
  · intro h i h1 h2
    have := h (i - p) (by rw [List.length_drop]; omega)
    rw [List.getD_eq_getElem?_getD] at this ⊢
    rw [List.getElem?_drop, show p + (i - p) = i by omega] at this
    exact this
theorem dec_ext {b : List By} {z : Nat} {most : Int} : ∀ (k p : Nat) (out : List By) (ms : List Md) (O : List By) (M : List Md), decL b z most k p out ms = .ok O M → ∃ t, M = ms ++ t
  | 0, p, out, ms, O, M, h => by rw [decL] at h; cases h
  | k + 1, p, out, ms, O, M, h => by
    rw [decL] at h
    split at h
    · split at h
      · cases h
      · obtain ⟨t, e⟩ := dec_ext k _ _ _ O M h
        exact ⟨_ :: t, by rw [e, List.append_assoc]; rfl⟩
    · injection h with _ h
      exact ⟨[], by rw [h, List.append_nil]⟩
set_option maxHeartbeats 4000000 in
set_option maxRecDepth 100000 in
theorem lzeros_any (w : World) (a : Option Addr) (n c : Nat) (l : List By) (hb : Old w (.slice a n c) l) (hn : l.length = n) (hl : n ≤ 140737488351232) (z : Bool) (hz : z = true ↔ ∀ i, i < l.length → l.getD i 0#8 = 0#8) :
    Calls Tryz.prog 28 #[.slice a n c] w fun e w' => e = .returned (.bool z) ∧ w = w' := by
  obtain ⟨P, hP⟩ : ∃ P : Ending → World → Prop, P = fun e w' => e = .returned (.bool z) ∧ w = w' := ⟨_, rfl⟩
  rw [← hP]
  have HF : Hid (∀ r : Bool, r = z → P (.returned (.bool r)) w) := fun r hr => by rw [hP, hr]; exact ⟨rfl, rfl⟩
  clear hP
  have HR : Hid (∀ I, I < n → ∃ g o, a = some ⟨g, o, none⟩ ∧ n ≤ c ∧ c < 9223372036854775808 ∧ w.cell? ⟨g, o + I, none⟩ = some (.int .u8 (l.getD I 0#8).toNat)) := fun I hI => by
    rcases hb with ⟨a', e, e2⟩ | ⟨g, _, o, c', e, e1, e2, hr⟩
    · rw [e2] at hn; simp at hn; omega
    · injection e with e _ ec
      subst ec
      refine ⟨g, o, e, by omega, e2, ?_⟩
      have := hr I (by omega)
      rw [List.getD_eq_getElem?_getD, List.getElem?_eq_getElem (by omega)]
      exact this
  have HZ : Hid ((z = true ↔ ∀ i, i < n → l.getD i 0#8 = 0#8)) := by rw [hn] at hz; exact hz
  clear hb hn hz
  go_enter Tryz.func28, Tryz.ntmps28
  go_wp2_with fail
  go_loopg [3] n (fun kx v wr => ∃ I : Nat, I ≤ n ∧ n ≤ I + kx ∧ v = .int .i64 I ∧ wr = w ∧ Hid (∀ i, i < I → l.getD i 0#8 = 0#8))
  case atStart => exact ⟨0, by omega, by omega, rfl, rfl, fun i hi => by omega⟩
  case round =>
    obtain ⟨I, hI, hkx, rfl, rfl, HI⟩ := hrel
    by_cases h0 : I < n
    · obtain ⟨g, o, rfl, hc1, hc2, x0⟩ := HR.out I h0
      have z1 : (I : Int) < (n : Int) := by omega
      have HS : Hid (∀ i, i < I + 1 → l.getD i 0#8 = 0#8 ∨ i = I) := fun i hi => by
        by_cases e : i = I
        · exact .inr e
        · exact .inl (HI.out i (by omega))
      have HX : Hid (∃ x, l.getD I 0#8 = x) := ⟨_, rfl⟩
      obtain ⟨x, hx⟩ := HX.out
      rw [hx] at x0
      by_cases hx0 : x = 0#8
      · subst hx0
        have HS2 : Hid (∀ i, i < I + 1 → l.getD i 0#8 = 0#8) := fun i hi => (HS.out i hi).elim id (fun e => by rw [e]; exact hx)
        have z2 : ((0#8 : By).toNat : Int) = 0 := rfl
        rw [z2] at x0
        clear HF HR HI HS HX HZ hx
        go_wp2_with fail
        go_roundg (n - (I + 1))
        case measure => omega
        case rel => exact ⟨I + 1, by omega, by omega, by simp, rfl, HS2⟩
      · have HF2 : Hid (P (.returned (.bool false)) wr) := by
          refine HF.out false ?_
          cases hz : z with
          | false => rfl
          | true => exact absurd (HZ.out.1 hz I h0) (by rw [hx]; exact hx0)
        have z2 : ¬ (x.toNat : Int) = 0 := fun e => hx0 (BitVec.eq_of_toNat_eq (by simpa using e))
        have z3 : ((x.toNat : Int) == 0) = false := by rw [beq_eq_false_iff_ne]; exact z2
        generalize (x.toNat : Int) = xx at *
        clear HF HR HI HS HX HZ hx hx0
        go_wp2_with fail
        exact HF2.out
    · have HF2 : Hid (P (.returned (.bool true)) wr) := by
        refine HF.out true (HZ.out.2 (fun i hi => HI.out i (by omega))).symm
      have z1 : ¬ (I : Int) < (n : Int) := by omega
      clear HF HR HI HZ
      go_wp2_with fail
      exact HF2.out
end Go.Proofs.YtpjnbhflnbhnoaaGreatDoor

namespace Go.Proofs.YtpjnbhflnbhnoaaGreatDoor
open Go.RowKit
set_option linter.unusedVariables false
/-- How GzipOnes' loop stands at the place p: w9 the world ahead of it. -/
structure OnI (b : List By) (w9 : World) (k p : Nat) (out : List By) (ms : List Md) (v6 v8 : Value) (w : World) : Prop where
  fuel : b.length < p + k
  ple : p ≤ b.length
  run : decL b (zlen b b.length) 4194304 k p out ms = decZ b 4194304
  sm : out.length ≤ 8388608
  cnt : ms.length ≤ p
  pl : Mine (fun k => k < w9.heap.size) v6 out w
  re : Old w9 v8 (b.drop p)
  nw : Nw w9 w
theorem OnI.step {b : List By} {w9 : World} {k p : Nat} {out : List By} {ms : List Md} {v6 v8 : Value} {w w1 V : World} (h : OnI b w9 k p out ms v6 v8 w) (hn : ms.length = 0 ∨ p < zlen b b.length) {o : List By} {m : Md} {n : Nat} (e : oneZ (b.drop p) (4194304 - out.length) = .ok o m n) (hnl : n ≤ (b.drop p).length) (ho : o.length ≤ 4194304) {vo : Value} (hvo : Mine (fun k => k < w.heap.size) vo o w1) (f1 : Nw w w1) (fV : Nw w1 V) :
    ∃ a' c' W, Hid (∀ ty, (Builtin.append_ #[22, 22] ty #[v6, vo]).run Tryz.prog V = .ok (.slice a' (out ++ o).length c') W) ∧ (out ++ o).length ≤ 8388608 ∧ Hid (∀ v8', Old w9 v8' (b.drop (p + n)) → OnI b w9 (k - 1) (p + n) (out ++ o) (ms ++ [m]) (.slice a' (out ++ o).length c') v8' W) := by
  have fw : Nw w V := f1.trans fV
  have hD : w9.heap.size ≤ w.heap.size := h.nw.size
  have hDV : w.heap.size ≤ V.heap.size := fw.size
  have hpos := one_pos e
  have h18 := one_18 e
  have hsm := h.sm
  have hc := h.cnt
  have hp := h.ple
  have hfu := h.fuel
  rw [List.length_drop] at hnl
  obtain ⟨vp', W, g1, g2, g3⟩ := mine_grow (fun k => k < w9.heap.size) w V fw (fun k hk => by omega) v6 out h.pl vo o ((hvo.nw fV).sl.mono (fun _ h => h.elim)) (by omega)
  obtain ⟨a', c', e1, _, _⟩ := g2.sl.form
  subst e1
  have hol : (out ++ o).length ≤ 8388608 := by rw [List.length_append]; omega
  refine ⟨a', c', W, g1, hol, fun v8' h8 => ⟨by omega, by omega, ?_, hol, ?_, g2, h8, ?_⟩⟩
  · obtain ⟨j, rfl⟩ : ∃ j, k = j + 1 := ⟨k - 1, by omega⟩
    rw [← h.run, decL_ok hn e, Nat.add_sub_cancel]
  · rw [List.length_append, List.length_singleton]; omega
  · exact (h.nw.trans fw).then g3 (fun i hi => .inr (by omega))
/-- What Decode left behind, for GzipOnes. -/
def DcU (b : List By) (V w1 : World) (vp vm : Value) (pl ml E : Nat) : Prop :=
  Nw V w1 ∧ ((E ≠ 0 ∧ decZ b 4194304 = .bad E) ∨ (E = 0 ∧ ∃ O M B og xs, decZ b 4194304 = .ok O M ∧ pl = O.length ∧ ml = M.length ∧ Old w1 vp O ∧ MsI V.heap.size B og vm M xs w1))
theorem zdec_all (w V : World) (g c L : Nat) (b : List By) (hO : Ow g (.slice (some ⟨g, 0, none⟩) L c) b V) (hL : b.length = L) (hbl : L ≤ 20000000000000) (hV : Nw w V) (hT : TabT w) (hI : Tab w) (h0 : 0 < w.heap.size) :
    Calls Tryz.prog 20 #[.slice (some ⟨g, 0, none⟩) L c, .int .i64 4194304] V fun e w1 => ∃ pa pl pc ma ml mc E, e = .returned (.tuple #[.slice pa pl pc, .slice ma ml mc, .int .i64 (E : Nat)]) ∧ ml ≤ mc ∧ mc < 9223372036854775808 ∧ Hid (DcU b V w1 (.slice pa pl pc) (.slice ma ml mc) pl ml E) := by
  cases hd : decZ b 4194304 with
  | bad y =>
    refine (zdec_bad w V g c L b 4194304 hO hL hbl (by decide) (by decide) hV hT hI h0 y hd).mono ?_
    rintro e w1 ⟨rfl, hy, H⟩
    exact ⟨none, 0, 0, none, 0, 0, y, rfl, by omega, by omega, H.out, .inl ⟨hy, hd⟩⟩
  | ok O M =>
    refine (zdec_ok w V g c L b 4194304 hO hL hbl (by decide) (by decide) hV hT hI h0 O M hd).mono ?_
    rintro e w1 ⟨pa, pc, ma, mc, rfl, q1, q2, H⟩
    obtain ⟨r1, r2, B, og, xs, r3⟩ := H.out
    exact ⟨pa, _, pc, ma, _, mc, 0, rfl, q1, q2, r1, .inr ⟨rfl, O, M, B, og, xs, hd, rfl, rfl, r2, r3⟩⟩
/-- The members that Decode told are those that One tells. -/
theorem DcU.mem {b : List By} {V w1 : World} {vp vm : Value} {pl ml E : Nat} (h : DcU b V w1 vp vm pl ml E) (hE : E = 0) {w9 : World} (f : Nw w1 w9) {k p : Nat} {out : List By} {ms : List Md} {v6 v8 : Value} {w : World} (hi : OnI b w9 k p out ms v6 v8 w) (hn : ms.length = 0 ∨ p < zlen b b.length) {o : List By} {m : Md} {n : Nat} (e : oneZ (b.drop p) (4194304 - out.length) = .ok o m n) :
    ms.length < ml ∧ ∃ g c, vm = .slice (some ⟨g, 0, none⟩) ml c ∧ ∀ V, Nw w9 V → V.cell? ⟨g, ms.length * 8, none⟩ = some (.string (str m.nm)) ∧ V.cell? ⟨g, ms.length * 8 + 3, none⟩ = some (.int .u32 m.tm) := by
  rcases h.2 with ⟨h1, _⟩ | ⟨_, O, M, B, og, xs, h2, h3, h4, h5, h6⟩
  · exact absurd hE h1
  · obtain ⟨j, rfl⟩ : ∃ j, k = j + 1 := ⟨k - 1, by have := hi.fuel; have := hi.ple; omega⟩
    have hr := hi.run
    rw [h2, decL_ok hn e] at hr
    obtain ⟨t, ht⟩ := dec_ext _ _ _ _ _ _ hr
    have hM : M[ms.length]? = some m := by rw [ht]; simp
    have hlt : ms.length < M.length := (List.getElem?_eq_some_iff.1 hM).1
    refine ⟨by omega, ?_⟩
    have hx := hM
    rw [← h6.eq, List.getElem?_map] at hx
    cases hq : xs[ms.length]? with
    | none => rw [hq] at hx; cases hx
    | some x =>
      rw [hq] at hx
      simp only [Option.map_some, Option.some.injEq] at hx
      have hrows := h6.rows
      cases og with
      | none =>
        have := hrows.2
        rw [this] at hq; simp at hq
      | some g =>
        obtain ⟨cc, hv, _, _⟩ := OwR.form hrows
        rw [h6.len, ← h4] at hv
        refine ⟨g, cc, hv, fun V hV => ?_⟩
        have hO : OwR RM g vm xs V := (OwR.nw hrows f).nw hV
        have c0 := (hO.cell rmOk ms.length 0 x (.string (str x.1.nm)) hq rfl).1
        have c3 := (hO.cell rmOk ms.length 3 x (.int .u32 x.1.tm) hq rfl).1
        rw [hx] at c0 c3
        exact ⟨c0, c3⟩
theorem DcU.bad {b : List By} {V w1 : World} {vp vm : Value} {pl ml E : Nat} (h : DcU b V w1 vp vm pl ml E) {w9 : World} {k p : Nat} {out : List By} {ms : List Md} {v6 v8 : Value} {w : World} (hi : OnI b w9 k p out ms v6 v8 w) (hn : ms.length = 0 ∨ p < zlen b b.length) {y : Nat} (e : oneZ (b.drop p) (4194304 - out.length) = .bad y) : E = if y = 130 ∧ 0 < ms.length then 5 else y := by
  obtain ⟨j, rfl⟩ : ∃ j, k = j + 1 := ⟨k - 1, by have := hi.fuel; have := hi.ple; omega⟩
  have hr := hi.run
  rw [decL_bad hn e] at hr
  rcases h.2 with ⟨_, h1⟩ | ⟨_, O, M, B, og, xs, h2, _⟩
  · rw [h1] at hr; injection hr with hr; exact hr.symm
  · rw [h2] at hr; cases hr
theorem DcU.done {b : List By} {V w1 : World} {vp vm : Value} {pl ml E : Nat} (h : DcU b V w1 vp vm pl ml E) {w9 : World} (f : Nw w1 w9) {k p : Nat} {out : List By} {ms : List Md} {v6 v8 : Value} {w : World} (hi : OnI b w9 k p out ms v6 v8 w) (hn : ¬ (ms.length = 0 ∨ p < zlen b b.length)) : E = 0 ∧ ml = ms.length ∧ pl = out.length ∧ (convert 22 9 vp).run Tryz.prog w = .ok (.string (str out)) w ∧ (convert 22 9 v6).run Tryz.prog w = .ok (.string (str out)) w := by
  obtain ⟨j, rfl⟩ : ∃ j, k = j + 1 := ⟨k - 1, by have := hi.fuel; have := hi.ple; omega⟩
  have hr := hi.run
  rw [decL_done hn] at hr
  rcases h.2 with ⟨_, h1⟩ | ⟨h1, O, M, B, og, xs, h2, h3, h4, h5, _⟩
  · rw [h1] at hr; cases hr
  · rw [h2] at hr
    injection hr with e1 e2
    subst e1 e2
    exact ⟨h1, h4, h3, conv_any (Sl.later (Sl.later h5 f) hi.nw), conv_any hi.pl.sl⟩
end Go.Proofs.YtpjnbhflnbhnoaaGreatDoor

namespace Go.Proofs.YtpjnbhflnbhnoaaGreatDoor
open Go.RowKit
set_option linter.unusedVariables false
namespace gzipOnes
set_option maxHeartbeats 32000000 in
set_option maxRecDepth 100000 in
theorem walk (w : World) (a : Option Addr) (c : Nat) (b : List By) (hb : Old w (.slice a b.length c) b) (hbl : b.length ≤ 1048576) (hT : TabT w) (hI : Tab w) (h0 : 0 < w.heap.size) :
    Calls Tryz.prog 8 #[.slice a b.length c] w fun e w' => e = .returned (.bool true) ∧ Nw w w' := by
  obtain ⟨P, hP⟩ : ∃ P : Ending → World → Prop, P = fun e w' => e = .returned (.bool true) ∧ Nw w w' := ⟨_, rfl⟩
  rw [← hP]
  have HF : Hid (∀ V, Nw w V → P (.returned (.bool true)) V) := fun V hV => by rw [hP]; exact ⟨rfl, hV⟩
  have HLV : Hid (Calls Tryz.prog 26 #[] w fun e w' => e = .returned (.bool true) ∧ Hid (Nw w w')) := zlives_any w hT hI h0
  have HCP : Hid (∀ V, Nw w V → ∃ g1 c1 W1, Hid (∀ ty, (Builtin.append_ #[22, 22] ty #[.slice (some ⟨V.heap.size, 0, none⟩) 0 0, .slice a b.length c]).run Tryz.prog (V.alloc (.cells #[] 5)) = .ok (.slice (some ⟨g1, 0, none⟩) b.length c1) W1) ∧ Ow g1 (.slice (some ⟨g1, 0, none⟩) b.length c1) b W1 ∧ Nw V W1 ∧ b.length ≤ c1 ∧ c1 < 9223372036854775808) := fun V hV => by
    obtain ⟨g1, c1, W1, k1, k2, k3, k4, k5, k6⟩ := copyZ V _ b ((Sl.later hb hV).mono (fun _ h => h.elim)) (by omega)
    exact ⟨g1, c1, W1, k1, k2, k4, k5, k6⟩
  have HB : Hid (TabT w ∧ Tab w ∧ 0 < w.heap.size) := ⟨hT, hI, h0⟩
  clear hP hb hT hI h0
  obtain ⟨L, hL⟩ : ∃ L, b.length = L := ⟨_, rfl⟩
  obtain ⟨Z, hZ⟩ : ∃ Z, zlen b b.length = Z := ⟨_, rfl⟩
  have HLL : Hid (b.length = L ∧ zlen b b.length = Z) := ⟨hL, hZ⟩
  rw [hL] at hbl HCP ⊢
  clear hL hZ
  have HD : Hid (∀ V g1 c1, Ow g1 (.slice (some ⟨g1, 0, none⟩) L c1) b V → Nw w V → Calls Tryz.prog 20 #[.slice (some ⟨g1, 0, none⟩) L c1, .int .i64 4194304] V fun e w1 => ∃ pa pl pc ma ml mc E, e = .returned (.tuple #[.slice pa pl pc, .slice ma ml mc, .int .i64 (E : Nat)]) ∧ ml ≤ mc ∧ mc < 9223372036854775808 ∧ Hid (DcU b V w1 (.slice pa pl pc) (.slice ma ml mc) pl ml E)) := fun V g1 c1 h1 h2 => zdec_all w V g1 c1 L b h1 HLL.out.1 (by omega) h2 HB.out.1 HB.out.2.1 HB.out.2.2
  go_enter Tryz.func8, Tryz.ntmps8
  go_upto_region 3 with (first | (go_at_call 26; with_reducible refine HLV.out.mono ?_; rintro e w1 ⟨rfl, H1⟩))
  obtain ⟨g1, c1, W1, HA1, o1, n1', _, _⟩ := HCP.out w1 H1.out
  have n1 := H1.out.trans n1'
  have HD1 := toHid2 (HD.out W1 g1 c1 o1 n1)
  have HN1 := toHid2 n1
  clear HD HLV o1 n1 n1' H1
  go_upto_region 6 with (first
    | (at_builtin; refine Lib.wpList_append_run _ rfl _ _ 22 22 rfl (.slice (some ⟨w1.heap.size, 0, none⟩) 0 0) (.slice a L c) (by simp [Act.eval]) (by simp [Act.eval]) _ _ (HA1.out _) ?_)
    | (go_at_call 20; with_reducible refine HD1.out.mono ?_; rintro e w3 ⟨pa, pl, pc, ma, ml, mc, E, rfl, hm1, hm2, H3⟩))
  have n3 := HN1.out.trans H3.out.1
  obtain ⟨g4, c4, W4, HA4, o4, n4, hc41, hc42⟩ := HCP.out w3 n3
  have HN4 : Hid (Nw w3 W4 ∧ Nw w W4) := ⟨n4, n3.trans n4⟩
  have HS : Hid (OnI b W4 (L + 1) 0 [] [] (.slice none 0 0) (.slice (some ⟨g4, 0, none⟩) L c4) W4) := by
    refine ⟨?_, ?_, ?_, by simp, by simp, Mine.nil _ _, o4.old, Fr.refl _ _⟩
    · rw [HLL.out.1]; omega
    · omega
    · rw [decZ, HLL.out.1]
  clear n3 o4 n4 HD1 HCP HA1 HN1
  go_wp2_with (first
    | (at_builtin; refine Lib.wpList_append_run _ rfl _ _ 22 22 rfl (.slice (some ⟨w3.heap.size, 0, none⟩) 0 0) (.slice a L c) (by simp [Act.eval]) (by simp [Act.eval]) _ _ (HA4.out _) ?_))
  clear HA4
  go_loopg [6, 7, 8] (L + 1) (fun kx v6 v7 v8 wr => ∃ (p RL c8 n6 c6 n7 : Nat) (a6 a8 : Option Addr), p + RL = L ∧ L < p + kx ∧ v6 = .slice a6 n6 c6 ∧ v7 = .int .i64 n7 ∧ v8 = .slice a8 RL c8 ∧ n7 ≤ L ∧ n6 ≤ 8388608 ∧ Hid (∃ k out ms, out.length = n6 ∧ ms.length = n7 ∧ OnI b W4 k p out ms (.slice a6 n6 c6) (.slice a8 RL c8) wr))
  case atStart => exact ⟨0, L, c4, 0, 0, 0, none, _, by omega, by omega, rfl, rfl, rfl, by omega, by omega, ⟨L + 1, [], [], rfl, rfl, HS.out⟩⟩
  case round =>
    obtain ⟨p, RL, c8, n6, c6, n7, a6, a8, hp, hk, rfl, rfl, rfl, hn7, hn6, HR⟩ := hrel
    have hHR := HR.out
    obtain ⟨k, out, ms, h1, h2, h4⟩ := hHR
    have hdl : (b.drop p).length = RL := by rw [List.length_drop, HLL.out.1]; omega
    have hold : Old wr (.slice a8 RL c8) (b.drop p) := Sl.later h4.re h4.nw
    by_cases hd : n7 = 0 ∨ p < Z
    · have hn : ms.length = 0 ∨ p < zlen b b.length := by rw [h2, HLL.out.2]; exact hd
      have HLZ : Hid (((n7 : Int) == 0) = true ∨ (((n7 : Int) == 0) = false ∧ Hid (Calls Tryz.prog 28 #[.slice a8 RL c8] wr fun e w' => e = .returned (.bool false) ∧ wr = w'))) := by
        by_cases h : n7 = 0
        · left; subst h; rfl
        · refine .inr ⟨by rw [beq_eq_false_iff_ne]; omega, lzeros_any wr a8 RL c8 (b.drop p) hold hdl (by omega) false ?_⟩
          rw [← drop_zero, HLL.out.2]
          simp only [Bool.false_eq_true, false_iff, Nat.not_lt, Nat.not_le]
          omega
      obtain ⟨MM, hMM⟩ : ∃ MM : Int, 4194304 - (n6 : Int) = MM := ⟨_, rfl⟩
      have hMM2 : 4194304 - (out.length : Int) = MM := by rw [h1]; exact hMM
      have hMw : IntKind.i64.wrap (4194304 - (n6 : Int)) = MM := by rw [IntKind.wrap_i64]; omega
      have HONE : Hid (Calls Tryz.prog 19 #[.slice a8 RL c8, .int .i64 MM] wr (OnA (b.drop p) MM wr)) := by
        have hNw : Nw w wr := HN4.out.2.trans h4.nw
        have := zone_any wr a8 c8 (b.drop p) MM (by rw [hdl]; exact hold) (by rw [hdl]; omega) (HB.out.1.nw hNw) (HB.out.2.1.kept hNw (fun e => e)) (Nat.lt_of_lt_of_le HB.out.2.2 hNw.size)
        rw [hdl] at this
        exact this
      have HST := toHid2 (And.intro h4 (And.intro hn (And.intro h1 (And.intro h2 (And.intro hMM2 hdl)))))
      have HKX := toHid2 (And.intro hk hp)
      clear HR HS h1 h2 h4 hn hMM2 hold hdl hd hk hp HB HLL
      go_upto_region 7 with fail
      go_cut [32] (fun v wx => v = .bool true ∧ wx = wr)
      case first =>
        clear HONE HST HKX H3 HF HN4
        rcases HLZ.out with e | ⟨e, HC⟩
        · clear HLZ
          go_wp2_with fail
          go_meet
          exact ⟨rfl, rfl⟩
        · clear HLZ
          go_wp2_with (first | (go_at_call 28; with_reducible refine HC.out.mono ?_; rintro e w5 ⟨rfl, rfl⟩))
          go_meet
          exact ⟨rfl, rfl⟩
      case rest =>
      obtain ⟨rfl, hw⟩ := hcut
      have hw' := hw.symm
      subst hw'
      clear hw HLZ
      go_upto_region 8 with fail
      go_cut [9, 10, 11, 12] (fun v9 v10 v11 v12 wx => Hid (OnC (b.drop p) MM wr v9 v10 v11 v12 wx))
      case first =>
        have HIN : Hid (∀ e w1, OnA (b.drop p) MM wr e w1 → (∃ y : Nat, e = .returned (.tuple #[.slice none 0 0, .agg #[.string ⟨#[]⟩, .string ⟨#[]⟩, .slice none 0 0, .int .u32 0, .int .u8 0, .int .u8 0, .bool false, .bool false], .int .i64 0, .int .i64 (y : Nat)]) ∧ Hid (OnC (b.drop p) MM wr (.slice none 0 0) (.pointer (some ⟨w1.heap.size, 0, none⟩)) (.int .i64 0) (.int .i64 (y : Nat)) (w1.alloc (.cells zrow 25)))) ∨
            (∃ pa ol pc n ea el ec nm cm tm fl sy tx sm, e = .returned (.tuple #[.slice pa ol pc, .agg #[.string nm, .string cm, .slice ea el ec, .int .u32 tm, .int .u8 fl, .int .u8 sy, .bool tx, .bool sm], .int .i64 (n : Nat), .int .i64 0]) ∧ Hid (OnC (b.drop p) MM wr (.slice pa ol pc) (.pointer (some ⟨w1.heap.size, 0, none⟩)) (.int .i64 (n : Nat)) (.int .i64 0) (w1.alloc (.cells #[.string nm, .string cm, .slice ea el ec, .int .u32 tm, .int .u8 fl, .int .u8 sy, .bool tx, .bool sm] 25))))) := fun e w1 h => by
          rcases h with ⟨y, q1, q2, q3, q4⟩ | ⟨o, m, n, pa, pc, v, q1, q2, q3, q4, q5, q6, q7⟩
          · exact .inl ⟨y, q3, w1, _, rfl, q4, rfl, .inl ⟨y, q1, q2, rfl, rfl, rfl, rfl⟩⟩
          · have q4' := q4
            obtain ⟨ea, en, ec, rfl, rfl, hE⟩ := q4
            exact .inr ⟨pa, o.length, pc, n, ea, m.ex.length, ec, _, _, _, _, _, _, _, q2, w1, _, rfl, q5, rfl, .inr ⟨o, m, n, pa, o.length, pc, ea, ec, rfl, q1, rfl, rfl, rfl, rfl, q3, q4', q6, q7⟩⟩
        clear HST HKX H3 HF HN4
        have HD := toHid2 (HONE.out.mono HIN.out)
        clear HONE HIN
        go_wp2_with fail
        go_at_call 19
        with_reducible refine HD.out.mono ?_
        rintro e w1 (⟨y, rfl, HG⟩ | ⟨pa, ol, pc, n, ea, el, ec, nm, cm, tm, fl, sy, tx, sm, rfl, HG⟩)
        · go_wp2_with fail
          go_meet
          exact HG
        · go_wp2_with fail
          go_meet
          exact HG
      case rest =>
      clear HONE
      obtain ⟨w5, blk, rfl, hN1, hblk, hways⟩ := hcut.out
      obtain ⟨wx, hwx⟩ : ∃ z, z = wc := ⟨_, rfl⟩
      subst hwx
      rcases hways with ⟨y, q1, q2, rfl, rfl, rfl, q3⟩ | ⟨o, m, n, oa, ol, oc, ea, ec, q0, q1, rfl, rfl, rfl, q3, q4, q5, q6, q7⟩
      · have hres : E = if y = 130 ∧ 0 < n7 then 5 else y := by
          obtain ⟨h4, hn, h1, h2, hMM2, hdl⟩ := HST.out
          have := H3.out.bad h4 hn (by rw [hMM2]; exact q1)
          rw [h2] at this
          exact this
        have HF2 : Hid (P (.returned (.bool true)) wx) := by
          refine HF.out _ ?_
          rw [q3]
          exact ((HN4.out.2.trans HST.out.1.nw).trans hN1).alloc _
        have y0 : ((y : Int) == 0) = false := by rw [beq_eq_false_iff_ne]; omega
        have y00 : ¬ (y : Int) = 0 := by omega
        by_cases h130 : y = 130 ∧ 0 < n7
        · rw [if_pos h130] at hres
          subst hres
          obtain ⟨rfl, hn0⟩ := h130
          have d1 : (0 : Int) < (n7 : Int) := by omega
          have d2 : decide ((0 : Int) < (n7 : Int)) = true := decide_eq_true d1
          have d3 : decide (0 < n7) = true := decide_eq_true hn0
          clear HST HKX hcut hN1 hblk q1 q2 q3 HF H3 HN4
          go_wp2_with fail
          exact HF2.out
        · rw [if_neg h130] at hres
          have hres' := hres.symm
          subst hres'
          have d1 : ((y : Int) == (y : Int)) = true := beq_self_eq_true _
          clear HST HKX hcut hN1 hblk q1 q2 q3 HF H3 HN4 h130
          go_wp2_with fail
          exact HF2.out
      · obtain ⟨nm, hnm⟩ : ∃ s, str m.nm = s := ⟨_, rfl⟩
        obtain ⟨tm, htm⟩ : ∃ s : Int, (m.tm : Int) = s := ⟨_, rfl⟩
        have h18 := one_18 q1
        have hnR : n ≤ RL := by rw [HST.out.2.2.2.2.2] at q6; exact q6
        have d1 : decide ((n : Int) < 18) = false := decide_eq_false (by omega)
        have d1' : ¬ (n : Int) < 18 := by omega
        have d2 : decide ((RL : Int) < (n : Int)) = false := decide_eq_false (by omega)
        have d2' : ¬ (RL : Int) < (n : Int) := by omega
        have HQ := toHid2 (And.intro q0 (And.intro q1 (And.intro q3 (And.intro q4 (And.intro hN1 (And.intro hblk (And.intro hnm htm)))))))
        clear q0 q1 q3 q4 q5 q6 hN1 hblk hnm htm
        go_upto_region 11 with fail
        go_cut [97] (fun v V => v = .bool false ∧ Hid (Nw wx V))
        case first =>
          by_cases hE : E = 0
          · subst hE
            have HALL : Hid (n7 < ml ∧ ∃ g c, Value.slice ma ml mc = .slice (some ⟨g, 0, none⟩) ml c ∧ wx.cell? ⟨g, n7 * 8, none⟩ = some (.string nm) ∧ wx.cell? ⟨g, n7 * 8 + 3, none⟩ = some (.int .u32 tm) ∧ wx.cell? ⟨blk, 0, none⟩ = some (.string nm) ∧ wx.cell? ⟨blk, 3, none⟩ = some (.int .u32 tm)) := by
              obtain ⟨q0, q1, q3, q4, hN1, hblk, hnm, htm⟩ := HQ.out
              obtain ⟨h4, hn, h1, h2, hMM2, hdl⟩ := HST.out
              obtain ⟨r1, g, cc, r2, r3⟩ := H3.out.mem rfl HN4.out.1 h4 hn (by rw [hMM2]; exact q1)
              have fV : Nw w5 wx := by rw [q3]; exact (Fr.refl _ _).alloc _
              have hrl : wx.heap[blk]? = some (.cells (RM.enc (m, ea, ec)).toArray 25) := by rw [q3, hblk]; exact new_heap _ _
              obtain ⟨s0, s3⟩ := r3 wx ((h4.nw.trans hN1).trans fV)
              have t0 := (row_cell hrl 0 (.string (str m.nm)) rfl).1
              have t3 := (row_cell hrl 3 (.int .u32 m.tm) rfl).1
              rw [h2] at r1 s0 s3
              rw [hnm] at s0 t0
              rw [htm] at s3 t3
              exact ⟨r1, g, cc, r2, s0, s3, t0, t3⟩
            obtain ⟨e1, g, cc, e2, x0, x1, x2, x3⟩ := HALL.out
            injection e2 with e2 _ e3
            subst e2 e3
            have d3 : decide ((ml : Int) ≤ (n7 : Int)) = false := decide_eq_false (by omega)
            have d4 : (n7 : Int) < (ml : Int) := by omega
            have d5 : ¬ (ml : Int) ≤ (n7 : Int) := by omega
            clear HALL HST HKX hcut HQ HF H3 HN4
            go_quiet (fail)
            go_wp2_with fail
            go_meet
            exact ⟨rfl, ((Fr.refl _ _).drewN _)⟩
          · have d3 : ((E : Int) == 0) = false := by rw [beq_eq_false_iff_ne]; omega
            have d4 : ¬ (E : Int) = 0 := by omega
            clear HST HKX hcut HQ HF H3 HN4 hE
            go_quiet (fail)
            go_wp2_with fail
            go_meet
            exact ⟨rfl, ((Fr.refl _ _).drewN _)⟩
        case rest =>
        obtain ⟨rfl, HV⟩ := hcut
        obtain ⟨V, hV⟩ : ∃ z, z = wc := ⟨_, rfl⟩
        subst hV
        have HALL : Hid (∃ a' n' c' W, Hid (∀ ty, (Builtin.append_ #[22, 22] ty #[.slice a6 n6 c6, .slice oa ol oc]).run Tryz.prog V = .ok (.slice a' n' c') W) ∧ n' ≤ 8388608 ∧ RL ≤ c8 ∧ c8 < 9223372036854775808 ∧ (c8 ≤ n → ∀ x, Hid (∃ k out ms, out.length = n' ∧ ms.length = n7 + 1 ∧ OnI b W4 k (p + n) out ms (.slice a' n' c') (.slice x (RL - n) 0) W)) ∧ (n < c8 → ∃ g o, a8 = some ⟨g, o, none⟩ ∧ Hid (∃ k out ms, out.length = n' ∧ ms.length = n7 + 1 ∧ OnI b W4 k (p + n) out ms (.slice a' n' c') (.slice (some ⟨g, o + n, none⟩) (RL - n) (c8 - n)) W))) := by
          obtain ⟨q0, q1, q3, q4, hN1, hblk, hnm, htm⟩ := HQ.out
          obtain ⟨h4, hn, h1, h2, hMM2, hdl⟩ := HST.out
          have fV : Nw w5 V := Fr.trans (by rw [q3]; exact (Fr.refl _ _).alloc _) HV.out
          subst q0
          obtain ⟨a', c', W, HA, hol, hO⟩ := h4.step hn (by rw [hMM2]; exact q1) (by rw [hdl]; exact hnR) q7 q4 hN1 fV
          obtain ⟨s1, s2, s3, s4⟩ := sl_suf h4.re hdl n hnR
          rw [List.drop_drop] at s1 s2
          refine ⟨a', _, c', W, HA, hol, s3, s4, fun hc x => ⟨_, _, _, rfl, by rw [List.length_append, List.length_singleton, h2], hO.out _ (s1 hc x)⟩, fun hc => ?_⟩
          obtain ⟨g, o', e1, e2⟩ := s2 hc
          exact ⟨g, o', e1, _, _, _, rfl, by rw [List.length_append, List.length_singleton, h2], hO.out _ e2⟩
        obtain ⟨a', n', c', W, HA, z1, z2, z3, z4, z5⟩ := HALL.out
        obtain ⟨hk, hp⟩ := HKX.out
        have hp2 : (n : Int) ≤ (RL : Int) := by omega
        have hlc2 : (RL : Int) ≤ (c8 : Int) := by omega
        have hcnt : n7 + 1 ≤ L := by
          obtain ⟨h4, hn, h1, h2, hMM2, hdl⟩ := HST.out
          have := h4.cnt
          omega
        by_cases hcp : c8 ≤ n
        · have HX := toHid2 (z4 hcp)
          clear HALL HST HKX HQ HF H3 HN4 z4 z5 HV
          go_wp2_with (first
            | (at_builtin; refine Lib.wpList_append_run _ rfl _ _ 22 22 rfl (.slice a6 n6 c6) (.slice oa ol oc) (by simp [Act.eval]) (by simp [Act.eval]) _ _ (HA.out _) ?_))
          go_roundg (L + 1 - (p + n))
          case measure => omega
          case rel => exact ⟨p + n, RL - n, 0, n', c', n7 + 1, a', _, by omega, by omega, rfl, by simp, rfl, hcnt, z1, HX.out _⟩
        · obtain ⟨g, o', rfl, HX⟩ := z5 (by omega)
          clear HALL HST HKX HQ HF H3 HN4 z4 z5 HV
          go_wp2_with (first
            | (at_builtin; refine Lib.wpList_append_run _ rfl _ _ 22 22 rfl (.slice a6 n6 c6) (.slice oa ol oc) (by simp [Act.eval]) (by simp [Act.eval]) _ _ (HA.out _) ?_))
          go_roundg (L + 1 - (p + n))
          case measure => omega
          case rel => exact ⟨p + n, RL - n, c8 - n, n', c', n7 + 1, a', _, by omega, by omega, rfl, by simp, rfl, hcnt, z1, HX⟩
    · have hnn : ¬ (ms.length = 0 ∨ p < zlen b b.length) := by rw [h2, HLL.out.2]; exact hd
      obtain ⟨e1, e2, e3, f1, f2⟩ := H3.out.done HN4.out.1 h4 hnn
      rw [h2] at e2
      have HC : Hid (Calls Tryz.prog 28 #[.slice a8 RL c8] wr fun e w' => e = .returned (.bool true) ∧ wr = w') := lzeros_any wr a8 RL c8 (b.drop p) hold hdl (by omega) true (by rw [← drop_zero, HLL.out.2]; simp only [true_iff]; omega)
      have HF2 := toHid2 (HF.out wr (HN4.out.2.trans h4.nw))
      have hee : ((str out).toList == (str out).toList) = true := beq_self_eq_true _
      have d1 : ¬ (n7 : Int) = 0 := by omega
      have d3 : ((n7 : Int) == 0) = false := by rw [beq_eq_false_iff_ne]; exact d1
      have d4 : ((n7 : Int) == (n7 : Int)) = true := beq_self_eq_true _
      subst e1 e2
      clear HR HS h1 h2 h4 hold hdl hd hk HB HLL hnn H3 HF HN4 e3
      generalize str out = S at *
      go_wp2_with (first | (go_at_call 28; with_reducible refine HC.out.mono ?_; rintro e w5 ⟨rfl, rfl⟩))
      exact HF2.out
end gzipOnes
end Go.Proofs.YtpjnbhflnbhnoaaGreatDoor
