import Derived.Test.YtoegbaenheeogaaNhO
import Derived.Test.YtoegbaenheeogaaNhP
import Derived.Test.YtoegbaenheeogaaWxa
namespace Go.Proofs.Ytoegbaenheeogaa
open Go.RowKit
set_option linter.unusedVariables false
/-! ### The document's Encode: its small parts -/
set_option maxHeartbeats 1000000 in
theorem wmagic_any (f : Nat) (w : World) : Calls Try.prog 27 #[.int .i64 (f : Nat)] w fun e w' => e = .returned (.string (str (mg f))) ∧ w' = w := by
  obtain ⟨P, hP⟩ : ∃ P : Ending → World → Prop, P = fun e w' => e = .returned (.string (str (mg f))) ∧ w' = w := ⟨_, rfl⟩
  rw [← hP]
  have HF : Hid (P (.returned (.string (str (mg f)))) w) := by rw [hP]; exact ⟨rfl, rfl⟩
  clear hP
  have e1 : str (mg 1) = ⟨#[0, 0, 0, 0, 0, 0, 0, 0]⟩ := by decide
  have e2 : str (mg 2) = ⟨#[117, 115, 116, 97, 114, 0, 48, 48]⟩ := by decide
  have e3 : str (mg 3) = ⟨#[117, 115, 116, 97, 114, 32, 32, 0]⟩ := by decide
  by_cases h2 : f = 2
  · subst h2
    rw [e2] at HF
    go_enter Try.func27, Try.ntmps27
    go_wp2_with fail
    exact HF.out
  · have q2 : ((f : Int) == 2) = false := by rw [beq_eq_false_iff_ne]; omega
    by_cases h3 : f = 3
    · subst h3
      rw [e3] at HF
      go_enter Try.func27, Try.ntmps27
      go_wp2_with fail
      exact HF.out
    · have q3 : ((f : Int) == 3) = false := by rw [beq_eq_false_iff_ne]; omega
      have em : mg f = mg 1 := by unfold mg; rw [if_neg h2, if_neg h3, if_neg (by decide), if_neg (by decide)]
      rw [em, e1] at HF
      go_enter Try.func27, Try.ntmps27
      go_wp2_with fail
      exact HF.out
set_option maxHeartbeats 1000000 in
theorem whas_any (f : Nat) (w : World) : Calls Try.prog 25 #[.int .i64 (f : Nat)] w fun e w' => e = .returned (.int .i64 ((if f = 1 then 5 else 7 : Nat) : Int)) ∧ w' = w := by
  obtain ⟨P, hP⟩ : ∃ P : Ending → World → Prop, P = fun e w' => e = .returned (.int .i64 ((if f = 1 then 5 else 7 : Nat) : Int)) ∧ w' = w := ⟨_, rfl⟩
  rw [← hP]
  have HF : Hid (P (.returned (.int .i64 ((if f = 1 then 5 else 7 : Nat) : Int))) w) := by rw [hP]; exact ⟨rfl, rfl⟩
  clear hP
  by_cases h : f = 1
  · rw [if_pos h] at HF
    subst h
    go_enter Try.func25, Try.ntmps25
    go_wp2_with fail
    exact HF.out
  · rw [if_neg h] at HF
    have q : ((f : Int) == 1) = false := by rw [beq_eq_false_iff_ne]; omega
    go_enter Try.func25, Try.ntmps25
    go_wp2_with fail
    exact HF.out
set_option maxHeartbeats 4000000 in
set_option maxRecDepth 100000 in
/-- zero: whether a text has a byte 0. -/
theorem wzero_any (s : ByteArray) (w : World) (hs : s.size ≤ 140737488351232) : Calls Try.prog 41 #[.string s] w fun e w' => e = .returned (.bool (!noZ s)) ∧ w' = w := by
  obtain ⟨P, hP⟩ : ∃ P : Ending → World → Prop, P = fun e w' => e = .returned (.bool (!noZ s)) ∧ w' = w := ⟨_, rfl⟩
  rw [← hP]
  have HF : Hid (∀ r, noZ s = r → P (.returned (.bool (!r))) w) := fun r hr => by rw [hP, ← hr]; exact ⟨rfl, rfl⟩
  clear hP
  go_enter Try.func41, Try.ntmps41
  go_upto_region 2 with fail
  go_loopg [3] s.size (fun kx v wr => ∃ I : Nat, I ≤ s.size ∧ s.size - I ≤ kx ∧ v = .int .i64 I ∧ wr = w ∧ Hid (∀ j, j < I → ∀ x, s.data.toList[j]? = some x → x ≠ 0))
  case atStart => exact ⟨0, by omega, by omega, rfl, rfl, fun j hj => by omega⟩
  case round =>
    obtain ⟨I, hI, hkx, rfl, hw, HI⟩ := hrel
    have hw' := hw.symm
    subst hw'
    clear hw
    by_cases hlt : I < s.size
    · obtain ⟨x, hx⟩ : ∃ x : UInt8, s[I]'hlt = x := ⟨_, rfl⟩
      have hxl : s.data.toList[I]? = some x := by rw [← hx]; exact Lib.data_getElem? s I hlt
      have hltI : (I : Int) < (s.size : Int) := by omega
      by_cases hx0 : x = 0
      · have HF2 := tHid (HF.out false (decide_eq_false (fun h => h (ix_z _ I (by rw [hxl, hx0])))))
        have hx1 : x.toNat = 0 := by rw [hx0]; rfl
        clear HF HI hxl hx0
        go_wp2_with fail
        exact HF2.out
      · have HNX : Hid (∀ j, j < I + 1 → ∀ x, s.data.toList[j]? = some x → x ≠ 0) := fun j hj y hy => by
          by_cases hjI : j = I
          · subst hjI
            rw [hxl] at hy
            injection hy with hy
            rw [← hy]; exact hx0
          · exact HI.out j (by omega) y hy
        have hx1 : ¬ x.toNat = 0 := fun e => hx0 (UInt8.toNat_inj.1 e)
        have hx2 : ((x.toNat : Int) == 0) = false := by rw [beq_eq_false_iff_ne]; omega
        clear HF HI hxl hx0
        go_wp2_with fail
        go_roundg (s.size - (I + 1))
        case measure => omega
        case rel => exact ⟨I + 1, by omega, by omega, by first | rfl | (congr 1), rfl, HNX⟩
    · have HF2 := tHid (HF.out true (decide_eq_true (ix_nz _ (fun i x hx => HI.out i (by have := (List.getElem?_eq_some_iff.1 hx).1; have e : s.data.toList.length = s.size := rfl; omega) x hx))))
      clear HF HI
      go_wp2_with fail
      exact HF2.out
/-- What text and digits answer: bytes of one's own, or none. -/
def PutB (ok : Bool) (L : List By) (w : World) (e : Ending) (w' : World) : Prop :=
  ∃ a n c, e = .returned (.tuple #[.slice a n c, .bool ok]) ∧ Hid (Nw w w' ∧ (ok = true → Old w' (.slice a n c) L))
theorem putA_b {E : Nat} {L : List By} {w : World} {f : FuncId} {args : Array Value} (h : Calls Try.prog f args w (PutA E L w)) : Calls Try.prog f args w fun e w' => ∃ a n c, e = .returned (.tuple #[.slice a n c, .int .i64 (E : Nat)]) ∧ Hid (Nw w w' ∧ (E = 0 → Old w' (.slice a n c) L)) := h.mono (fun e w' q => by
  obtain ⟨a, n, c, rfl, k1, k2⟩ := q
  refine ⟨a, n, c, rfl, k1, fun hE => ?_⟩
  rcases k2 with ⟨h, _⟩ | ⟨_, g, hg, hO⟩
  · exact absurd hE h
  · exact Mine.old (K := fun _ => False) (.inr ⟨g, fun h => h, hO⟩))
set_option maxHeartbeats 1000000 in
theorem wtext_any (s : ByteArray) (n : Nat) (w : World) (hs : s.size ≤ 140737488351232) : Calls Try.prog 22 #[.string s, .int .i64 (n : Nat)] w (PutB (decide (pxE s n = 0)) (pxL s n) w) := by
  obtain ⟨P, hP⟩ : ∃ P : Ending → World → Prop, P = PutB (decide (pxE s n = 0)) (pxL s n) w := ⟨_, rfl⟩
  rw [← hP]
  have HT := tHid (putA_b (rputText_any s n w hs))
  have HF : Hid (∀ W a m c, Nw w W → (pxE s n = 0 → Old W (.slice a m c) (pxL s n)) → P (.returned (.tuple #[.slice a m c, .bool (decide (pxE s n = 0))])) W) := fun W a m c h1 h2 => by rw [hP]; exact ⟨a, m, c, rfl, h1, fun q => h2 (of_decide_eq_true q)⟩
  clear hP
  generalize pxE s n = E at *
  have hEq : ((E : Int) == 0) = decide (E = 0) := by
    by_cases h : E = 0
    · rw [decide_eq_true h, h]; rfl
    · rw [decide_eq_false h, beq_eq_false_iff_ne]; omega
  go_enter Try.func22, Try.ntmps22
  go_wp2_with (first | (go_at_call 42; with_reducible refine HT.out.mono ?_; rintro e w1 ⟨a, m, c, rfl, K1⟩))
  first | exact HF.out _ _ _ _ K1.out.1 K1.out.2 | (go_ret2; exact HF.out _ _ _ _ K1.out.1 K1.out.2)
set_option maxHeartbeats 2000000 in
set_option maxRecDepth 100000 in
theorem wdigits_any (h : Hr) (f o n : Nat) (x : Int) (bl : Bool) (w : World) (hform : h.form = f) (hx : i64 x) : Calls Try.prog 26 #[.agg h.C, .agg #[.int .i64 (o : Nat), .int .i64 (n : Nat), .int .i64 x, .bool bl]] w (PutB (decide (nE f x n = 0) && (decide (0 ≤ x) || bl)) (nL f x n) w) := by
  obtain ⟨P, hP⟩ : ∃ P : Ending → World → Prop, P = PutB (decide (nE f x n = 0) && (decide (0 ≤ x) || bl)) (nL f x n) w := ⟨_, rfl⟩
  rw [← hP]
  have HF : Hid (∀ W a m c r, Nw w W → (decide (nE f x n = 0) && (decide (0 ≤ x) || bl)) = r → (r = true → Old W (.slice a m c) (nL f x n)) → P (.returned (.tuple #[.slice a m c, .bool r])) W) := fun W a m c r h1 hr h2 => by rw [hP, ← hr]; exact ⟨a, m, c, rfl, h1, fun q => h2 (by rw [← hr]; exact q)⟩
  clear hP
  have hCu : h.C = #[.int .i64 (f : Nat), .string h.name, .string h.pfx, .int .i64 h.mode, .int .i64 h.uid, .int .i64 h.gid, .int .i64 h.size, .int .i64 h.time, .int .u8 h.typ.toNat, .string h.link, .string h.user, .string h.group, .int .i64 h.major, .int .i64 h.minor] := by rw [← hform]; rfl
  rw [hCu]
  clear hCu hform
  obtain ⟨W1, hW1⟩ : ∃ W1, (w.alloc (.cells #[.int .i64 (f : Nat), .string h.name, .string h.pfx, .int .i64 h.mode, .int .i64 h.uid, .int .i64 h.gid, .int .i64 h.size, .int .i64 h.time, .int .u8 h.typ.toNat, .string h.link, .string h.user, .string h.group, .int .i64 h.major, .int .i64 h.minor] 23)).alloc (.cells #[.int .i64 (o : Nat), .int .i64 (n : Nat), .int .i64 x, .bool bl] 61) = W1 := ⟨_, rfl⟩
  have hN1 : Nw w W1 := by rw [← hW1]; exact ((Fr.refl _ _).alloc _).alloc _
  have HN1 := tHid hN1
  have HW1 := tHid hW1
  have s1 : (w.alloc (.cells #[.int .i64 (f : Nat), .string h.name, .string h.pfx, .int .i64 h.mode, .int .i64 h.uid, .int .i64 h.gid, .int .i64 h.size, .int .i64 h.time, .int .u8 h.typ.toNat, .string h.link, .string h.user, .string h.group, .int .i64 h.major, .int .i64 h.minor] 23)).heap.size = w.heap.size + 1 := by simp
  have b1 : W1.heap[w.heap.size + 1]? = some (.cells #[.int .i64 (o : Nat), .int .i64 (n : Nat), .int .i64 x, .bool bl] 61) := by rw [← hW1, ← s1]; exact newHeap _ _
  have b0 : W1.cell? ⟨w.heap.size, 0, none⟩ = some (.int .i64 (f : Nat)) := by
    have hh : W1.heap[w.heap.size]? = some (.cells #[.int .i64 (f : Nat), .string h.name, .string h.pfx, .int .i64 h.mode, .int .i64 h.uid, .int .i64 h.gid, .int .i64 h.size, .int .i64 h.time, .int .u8 h.typ.toNat, .string h.link, .string h.user, .string h.group, .int .i64 h.major, .int .i64 h.minor] 23) := by rw [← hW1]; exact Nw.heap ((Fr.refl _ _).alloc _) (newHeap _ _)
    exact cell_of hh 0 _ rfl
  have c1 := cell_of b1 1 _ rfl
  have c2 := cell_of b1 2 _ rfl
  have c3 := cell_of b1 3 _ rfl
  clear hW1 hN1 s1 b1
  by_cases hbad : x < 0 ∧ bl = false
  · obtain ⟨hx0, rfl⟩ := hbad
    have HF2 := tHid (HF.out W1 none 0 0 false HN1.out (by rw [decide_eq_false (show ¬ 0 ≤ x by omega), Bool.or_false, Bool.and_false]) (fun q => by cases q))
    clear HF
    go_enter Try.func26, Try.ntmps26
    go_upto_region 1 with fail
    rw [HW1.out]
    go_wp2_with fail
    first | exact HF2.out | (go_ret2; exact HF2.out)
  · have hok : (decide (0 ≤ x) || bl) = true := by
      by_cases h0 : 0 ≤ x
      · rw [decide_eq_true h0, Bool.true_or]
      · cases bl with
        | true => rw [Bool.or_true]
        | false => exact absurd ⟨by omega, rfl⟩ hbad
    rw [hok, Bool.and_true] at HF
    have hx2 : ¬ x < 0 ∨ x < 0 ∧ bl = true := by
      by_cases h0 : x < 0
      · cases bl with
        | true => exact .inr ⟨h0, rfl⟩
        | false => exact absurd ⟨h0, rfl⟩ hbad
      · exact .inl h0
    clear hbad hok
    by_cases hf : f = 3
    · have HPN : Hid (Calls Try.prog 43 #[.int .i64 x, .int .i64 (n : Nat)] W1 fun e w' => ∃ a m c, e = .returned (.tuple #[.slice a m c, .int .i64 (nE f x n : Nat)]) ∧ Hid (Nw W1 w' ∧ (nE f x n = 0 → Old w' (.slice a m c) (nL f x n)))) := by
        have t := putA_b (rputNumber_any x n W1 hx.1 hx.2)
        unfold nE nL
        rw [if_pos hf, if_pos hf]
        exact t
      have hfq : ((f : Int) == 3) = true := by rw [hf]; rfl
      clear hf
      generalize nE f x n = E at *
      have hEq : ((E : Int) == 0) = decide (E = 0) := by
        by_cases h : E = 0
        · rw [decide_eq_true h, h]; rfl
        · rw [decide_eq_false h, beq_eq_false_iff_ne]; omega
      rcases hx2 with h0 | ⟨h0, rfl⟩
      all_goals
        go_enter Try.func26, Try.ntmps26
        go_upto_region 1 with fail
        rw [HW1.out]
        go_wp2_with (first | (go_at_call 43; with_reducible refine HPN.out.mono ?_; rintro e w4 ⟨a, m, c, rfl, K4⟩))
        first | exact HF.out _ _ _ _ _ (HN1.out.trans K4.out.1) rfl (fun q => K4.out.2 (of_decide_eq_true q)) | (go_ret2; exact HF.out _ _ _ _ _ (HN1.out.trans K4.out.1) rfl (fun q => K4.out.2 (of_decide_eq_true q)))
    · have HPN : Hid (Calls Try.prog 44 #[.int .i64 x, .int .i64 (n : Nat)] W1 fun e w' => ∃ a m c, e = .returned (.tuple #[.slice a m c, .int .i64 (nE f x n : Nat)]) ∧ Hid (Nw W1 w' ∧ (nE f x n = 0 → Old w' (.slice a m c) (nL f x n)))) := by
        have t := putA_b (rputOctal_any x n W1 hx.1 hx.2)
        unfold nE nL
        rw [if_neg hf, if_neg hf]
        exact t
      have hfq : ((f : Int) == 3) = false := by rw [beq_eq_false_iff_ne]; omega
      generalize nE f x n = E at *
      have hEq : ((E : Int) == 0) = decide (E = 0) := by
        by_cases h : E = 0
        · rw [decide_eq_true h, h]; rfl
        · rw [decide_eq_false h, beq_eq_false_iff_ne]; omega
      rcases hx2 with h0 | ⟨h0, rfl⟩
      all_goals
        go_enter Try.func26, Try.ntmps26
        go_upto_region 1 with fail
        rw [HW1.out]
        go_wp2_with (first | (go_at_call 44; with_reducible refine HPN.out.mono ?_; rintro e w4 ⟨a, m, c, rfl, K4⟩))
        first | exact HF.out _ _ _ _ _ (HN1.out.trans K4.out.1) rfl (fun q => K4.out.2 (of_decide_eq_true q)) | (go_ret2; exact HF.out _ _ _ _ _ (HN1.out.trans K4.out.1) rfl (fun q => K4.out.2 (of_decide_eq_true q)))
end Go.Proofs.Ytoegbaenheeogaa

namespace Go.Proofs.Ytoegbaenheeogaa
open Go.RowKit
set_option linter.unusedVariables false
/-! ### The document's put -/
theorem pt_none (r : List By) (o : Nat) : pt r o [] = r := by unfold pt; simp
theorem pt_more (r l : List By) (o I : Nat) (h1 : I < l.length) (h2 : o + l.length ≤ r.length) : (pt r o (l.take I)).set (o + I) l[I] = pt r o (l.take (I + 1)) := by
  unfold pt
  have hl : (l.take I).length = I := by rw [List.length_take]; omega
  have hl2 : (l.take (I + 1)).length = I + 1 := by rw [List.length_take]; omega
  have ho : (r.take o).length = o := by rw [List.length_take]; omega
  have hlt : o + I < r.length := by omega
  have e : r.drop (o + I) = r[o + I] :: r.drop (o + (I + 1)) := List.drop_eq_getElem_cons hlt
  rw [hl, hl2, e]
  have := set_mid r[o + I] l[I] (r.take o ++ l.take I) (r.drop (o + (I + 1)))
  rw [List.length_append, ho, hl, List.append_assoc] at this
  rw [this, take_snoc l I h1, List.append_assoc, List.append_assoc]
  rfl
set_option maxHeartbeats 4000000 in
set_option maxRecDepth 100000 in
theorem wput_any (r l : List By) (hr : r.length = 512) (o : Nat) (ho : o + l.length ≤ 512) (w : World) (a : Option Addr) (c : Nat) (hl : Old w (.slice a l.length c) l) : Calls Try.prog 23 #[.agg (rc r), .int .i64 (o : Nat), .slice a l.length c] w fun e w' => e = .returned (.agg (rc (pt r o l))) ∧ Nw w w' := by
  obtain ⟨P, hP⟩ : ∃ P : Ending → World → Prop, P = fun e w' => e = .returned (.agg (rc (pt r o l))) ∧ Nw w w' := ⟨_, rfl⟩
  rw [← hP]
  have HF : Hid (∀ W, Nw w W → P (.returned (.agg (rc (pt r o l)))) W) := fun W hW => by rw [hP]; exact ⟨rfl, hW⟩
  clear hP
  obtain ⟨rb, hrb⟩ : ∃ rb, w.heap.size = rb := ⟨_, rfl⟩
  obtain ⟨qb, hqb⟩ : ∃ qb, rb + 1 = qb := ⟨_, rfl⟩
  obtain ⟨W0, hW0⟩ : ∃ W0, w.alloc (.cells (rc r) 24) = W0 := ⟨_, rfl⟩
  have s1 : (w.alloc (.cells (rc r) 24)).heap.size = w.heap.size + 1 := by simp
  have hR0 : RcH rb r W0 := by rw [← hW0, ← hrb]; exact newHeap _ _
  obtain ⟨W1, hW1⟩ : ∃ W1, W0.alloc (.cells Try.zeroCells24 24) = W1 := ⟨_, rfl⟩
  have hsz : W0.heap.size = qb := by rw [← hW0, s1, hrb]; exact hqb
  have hQ1 : RcH qb zrec W1 := by rw [← hW1, ← hsz]; unfold RcH; rw [← zrec_rc]; exact newHeap _ _
  have k1 : Nw W0 W1 := by rw [← hW1]; exact (Fr.refl _ _).alloc _
  have hN0 : Nw w W0 := by rw [← hW0]; exact (Fr.refl _ _).alloc _
  have HQ1 := tHid hQ1
  have HN1 : Hid (Nw w W1) := hN0.trans k1
  have HR1 : Hid (RcH rb r W1) := hR0.kept k1 (fun h => h)
  have HW0 := tHid hW0
  have HW1 := tHid hW1
  have hzz : Try.zeroCells24 = rc zrec := zrec_rc
  clear hW0 hW1 hR0 hQ1 k1 hN0 s1
  rw [hzz] at HW1
  have HEN0 : Hid (∀ (W : World) (R : List By), R.length = 512 → Nw w W → RcH qb R W → pt r o l = R → ∀ tmps : Array Value, tmps.getD 6 undef = .pointer (some ⟨qb, 0, none⟩) → bodyPost Try.prog Try.f23 P .ret ⟨tmps, []⟩ W) := fun W R hRl hW hq h1 tmps g2 => by
    refine bodyPost_ret (results_cell_row (P := Try.prog) (p := 6) (ty := 24) rfl _ _ qb 24 (rc R) (0, 0) _ g2 hq Try.underlying24 rfl (rc_info R hRl)) rfl ?_
    rw [← h1]
    exact HF.out W hW
  have hoI : (o : Int) + (l.length : Int) ≤ 512 := by omega
  go_enter Try.func23, Try.ntmps23
  go_upto_region 1 with fail
  rw [HW0.out]
  go_upto_region 2 with fail
  rw [HW1.out]
  go_loopg [7] l.length (fun kx v wr => ∃ I : Nat, I ≤ l.length ∧ l.length ≤ I + kx ∧ v = .int .i64 (I : Int) ∧ Hid (RcH rb (pt r o (l.take I)) wr ∧ Fr (fun k => k = rb) W1 wr))
  case atStart => exact ⟨0, by omega, by omega, rfl, by rw [List.take_zero, pt_none]; exact ⟨HR1.out, Fr.refl _ _⟩⟩
  case round =>
    obtain ⟨I, hI1, hkx, rfl, HI⟩ := hrel
    have hpl : (pt r o (l.take I)).length = 512 := by rw [pt_length _ _ _ (by rw [List.length_take]; omega)]; exact hr
    by_cases q1 : I < l.length
    · have q1' : (I : Int) < (l.length : Int) := by omega
      have q2' : (o : Int) + (I : Int) < 512 := by omega
      have q3' : 0 ≤ (o : Int) + (I : Int) := by omega
      obtain ⟨g, o2, rfl, hg, hrd⟩ : ∃ g o2, a = some ⟨g, o2, none⟩ ∧ ¬ w.heap.size ≤ g ∧ Rd g o2 l w := by
        rcases hl with ⟨a', e, rfl⟩ | ⟨g, hg, o2, c', e, _, _, hr⟩
        · simp at q1
        · injection e with ea _ _
          exact ⟨g, o2, ea, hg, hr⟩
      have hfw : Fr (fun k => k = rb) w wr := Fr.then (Fr.mono HN1.out (fun i hi => hi.elim)) HI.out.2 (fun i hi => .inl hi)
      have hcl : wr.cell? ⟨g, o2 + I, none⟩ = some (.int .u8 (l[I]'q1).toNat) := by
        have h0 := hrd.at I l[I] (List.getElem?_eq_getElem q1)
        have hgl : g < w.heap.size := by omega
        have hb := hfw.block g hgl (by omega)
        unfold World.cell? at h0 ⊢
        rw [hb]
        exact h0
      have hrc := HI.out.1.cell (o + I) (by rw [hpl]; omega)
      have r1 := hrc.1
      have r2 := hrc.2
      have HNX : Hid (RcH rb (pt r o (l.take (I + 1))) (wr.setCell ⟨rb, o + I, none⟩ (.int .u8 (l[I]'q1).toNat)) ∧ Fr (fun k => k = rb) W1 (wr.setCell ⟨rb, o + I, none⟩ (.int .u8 (l[I]'q1).toNat))) := by
        refine ⟨?_, HI.out.2.setCell ⟨rb, o + I, none⟩ _ (.inl rfl)⟩
        rw [← pt_more r l o I q1 (by omega)]
        exact HI.out.1.set (o + I) l[I] _ rfl
      have hoN : ((o : Int) + (I : Int)).toNat = o + I := by omega
      clear hrd hfw hrc HI hl
      generalize (l[I]'q1) = x at *
      go_wp2_with fail
      go_roundg (l.length - (I + 1))
      case measure => omega
      case rel => exact ⟨I + 1, by omega, by omega, by first | rfl | (congr 1), HNX⟩
    · have hR : pt r o l = pt r o (l.take I) := by rw [List.take_of_length_le (by omega)]
      have hq5 := HQ1.out.kept HI.out.2 (fun e => by omega)
      obtain ⟨W5, e5⟩ : ∃ W5, wr.setRow qb (rc (pt r o (l.take I))) = W5 := ⟨_, rfl⟩
      have hq6 : RcH qb (pt r o (l.take I)) W5 := by rw [← e5]; exact setRow_heap _ _ _ _ 24 _ hq5
      have hn6 : Nw w W5 := by
        rw [← e5]
        exact (Fr.then HN1.out HI.out.2 (fun i hi => .inr (by omega))).setRow _ _ (.inr (by omega))
      have Y1 := tHid HI.out.1
      have Y2 := tHid (rc_info (pt r o (l.take I)) hpl)
      have Y3 := tHid hq5
      have Y4 : Hid ((rc zrec).size = (rc (pt r o (l.take I))).size) := by show _ = _; rw [rc_size, rc_size, zrec_length, hpl]
      have Y5 := tHid (rc_one (pt r o (l.take I)))
      have HE := tHid (HEN0.out W5 (pt r o (l.take I)) hpl hn6 hq6 hR)
      clear HI hq5 hq6 hn6 hpl HEN0 HF hR hl
      generalize pt r o (l.take I) = R at *
      have hp : ¬ (I : Int) < (l.length : Int) := by omega
      go_wp2_with (first
        | (refine wpList_load_row rfl 24 _ rfl rb (by first | rfl | simp [Act.eval]) 24 _ (0, 0) _ Y1.out Try.underlying24 rfl Y2.out ?_)
        | (refine wpList_store_row rfl 24 _ _ rfl qb (rc R) (by first | rfl | simp [Act.eval]) (by first | rfl | simp [Act.eval]) 24 _ Y3.out Y2.out Y4.out Y5.out ?_; rw [e5]))
      (try simp only [Exit.inBlock, Exit.then])
      exact HE.out _ rfl
end Go.Proofs.Ytoegbaenheeogaa
