import Derived.Test.YtiinalgflmgnaaaDoorNfW
import Derived.Test.YtiinalgflmgnaaaDoorNfJ
namespace Go.Proofs.YtiinalgflmgnaaaDoor
open Go.RowKit
set_option linter.unusedVariables false
theorem lit770 (w : World) : Sl (fun _ => False) (.slice (some ⟨w.heap.size, 0, none⟩) 3 3) [55#8, 55#8, 0#8] (w.alloc (.cells #[.int .u8 55, .int .u8 55, .int .u8 0] 5)) := by
  have hb : Bw w.heap.size [55#8, 55#8, 0#8] (w.alloc (.cells #[.int .u8 55, .int .u8 55, .int .u8 0] 5)) := by
    show (w.heap.push _)[w.heap.size]? = _
    simp
  exact .inr ⟨_, fun h => h, Ow.slb ⟨[55#8, 55#8, 0#8], rfl, rfl, by decide, by decide, hb⟩⟩
/-- The law's own copy, with three bytes behind it. -/
theorem hand_in (w : World) (v : Value) (b : List By) (hb : Old w v b) (hbl : b.length ≤ 140737488351232) :
    ∃ g1 c1 W1 g2 c2 W2, (∀ ty, (appF #[22, 22] ty #[.slice (some ⟨w.heap.size, 0, none⟩) 0 0, v]).run Tryd.prog (w.alloc (.cells #[] 5)) = .ok (.slice (some ⟨g1, 0, none⟩) b.length c1) W1) ∧
      (∀ ty, (appF #[22, 22] ty #[.slice (some ⟨g1, 0, none⟩) b.length c1, .slice (some ⟨W1.heap.size, 0, none⟩) 3 3]).run Tryd.prog (W1.alloc (.cells #[.int .u8 55, .int .u8 55, .int .u8 0] 5)) = .ok (.slice (some ⟨g2, 0, none⟩) (b.length + 3) c2) W2) ∧
      Ow g2 (.slice (some ⟨g2, 0, none⟩) (b.length + 3) c2) (b ++ [55#8, 55#8, 0#8]) W2 ∧ Nw w W2 := by
  have h0 : Nw w (w.alloc (.cells #[] 5)) := (Fr.refl _ _).alloc _
  obtain ⟨v1, g1, W1, k1, k2, k3, k4⟩ := app_any _ w.heap.size _ [] (Ow.empty w) v b ((hb.nw h0).mono (fun _ h => h.elim)) (by simp; omega)
  rw [List.nil_append] at k2
  have n1 : Nw w W1 := Fr.then h0 k3 (fun i hi => .inr (by omega))
  have k2' := k2
  obtain ⟨xs, rfl, _⟩ := k2'
  have h1 : Nw W1 (W1.alloc (.cells #[.int .u8 55, .int .u8 55, .int .u8 0] 5)) := (Fr.refl _ _).alloc _
  obtain ⟨v2, g2, W2, j1, j2, j3, j4⟩ := app_any _ g1 _ b (k2.nw h1) _ _ (lit770 W1) (by simp; omega)
  have j2' := j2
  obtain ⟨ys, e, _⟩ := j2'
  have hl : (b ++ [55#8, 55#8, 0#8]).length = b.length + 3 := by simp
  rw [hl] at e
  subst e
  have hg1 : w.heap.size ≤ g1 := by
    rcases k4 with rfl | h
    · exact Nat.le_refl _
    · exact Nat.le_trans h0.size h
  refine ⟨g1, xs.length, W1, g2, ys.length, W2, k1, j1, j2, Fr.then (n1.trans h1) j3 (fun i hi => .inr (by subst hi; exact hg1))⟩
theorem str770 : (⟨#[55, 55, 0]⟩ : ByteArray) = str [55#8, 55#8, 0#8] := by decide
namespace fieldReads
section
attribute [local go_sem ↓] appF_fold
set_option maxHeartbeats 16000000 in
set_option maxRecDepth 100000 in
theorem walk (w : World) (a : Option Addr) (n c : Nat) (b : List By) (hb : Old w (.slice a n c) b) (hbl : n ≤ 140737488351232) :
    Calls Tryd.prog 3 #[.slice a n c] w fun e w' => e = .returned (.bool true) ∧ Nw w w' := by
  obtain ⟨P, hP⟩ : ∃ P : Ending → World → Prop, P = fun e w' => e = .returned (.bool true) ∧ Nw w w' := ⟨_, rfl⟩
  rw [← hP]
  have HF : Hid (∀ W, Nw w W → P (.returned (.bool true)) W) := fun W hW => by rw [hP]; exact ⟨rfl, hW⟩
  clear hP
  obtain ⟨hbn, k1, k2⟩ := sl_len hb
  obtain ⟨g1, c1, W1, g2, c2, W2, r1, r2, hO, n2⟩ := hand_in w _ b hb (by omega)
  rw [hbn] at r1 r2 hO
  have hcc : n + 3 ≤ c2 ∧ c2 < 9223372036854775808 := (sl_len hO.old).2
  obtain ⟨hc3, hc4⟩ := hcc
  have hSl : ∀ V, Nw W2 V → Sl (fun _ => False) (.slice (some ⟨g2, 0, none⟩) n c2) b V := fun V hV => by
    have hS : Sl (fun _ => False) (.slice (some ⟨g2, 0, none⟩) (n + 3) c2) (b ++ [55#8, 55#8, 0#8]) V := .inr ⟨g2, fun h => h, (hO.nw hV).slb⟩
    have := sl_take hS n (by omega)
    rw [List.take_append_of_le_length (by omega), List.take_of_length_le (by omega)] at this
    exact this
  have hSb : ∀ V, Nw W2 V → Old V (.slice a n c) b := fun V hV => Sl.later hb (n2.trans hV)
  have HO1 : Hid (∀ V, Nw W2 V → Calls Tryd.prog 8 #[.slice (some ⟨g2, 0, none⟩) n c2] V fun e w' => e = .returned (.tuple #[.int .i64 (octN b : Nat), .int .i64 (octE b : Nat)]) ∧ Hid (Nw V w')) := fun V hV => octal_any V _ n c2 b (hSl V hV)
  have HO2 : Hid (∀ V, Nw W2 V → Calls Tryd.prog 9 #[.slice a n c] V fun e w' => e = .returned (.tuple #[.int .i64 (octN b : Nat), .int .i64 (octE b : Nat)]) ∧ V = w') := fun V hV => roctal_any V _ n c b (hSb V hV)
  have HB1 : Hid (∀ V, Nw W2 V → Calls Tryd.prog 10 #[.slice (some ⟨g2, 0, none⟩) n c2] V fun e w' => e = .returned (.tuple #[.int .i64 (binN b), .int .i64 (binE b : Nat)]) ∧ V = w') := fun V hV => binary_any V _ n c2 b (hSl V hV)
  have HB2 : Hid (∀ V, Nw W2 V → Calls Tryd.prog 11 #[.slice a n c] V fun e w' => e = .returned (.tuple #[.int .i64 (binN b), .int .i64 (binE b : Nat)]) ∧ Hid (Nw V w')) := fun V hV => rbinary_any V _ n c b (hSb V hV) hbl
  obtain ⟨N1, N2, hNN⟩ : ∃ N1 : Int, ∃ N2 : Nat, numA b = .tuple #[.int .i64 N1, .int .i64 (N2 : Nat)] := by
    unfold numA
    split
    · exact ⟨_, _, rfl⟩
    · exact ⟨_, _, rfl⟩
  have HN1 : Hid (∀ V, Nw W2 V → Calls Tryd.prog 12 #[.slice (some ⟨g2, 0, none⟩) n c2] V fun e w' => e = .returned (.tuple #[.int .i64 N1, .int .i64 (N2 : Nat)]) ∧ Hid (Nw V w')) := fun V hV => by rw [← hNN]; exact number_any V _ n c2 b (hSl V hV)
  have HN2 : Hid (∀ V, Nw W2 V → Calls Tryd.prog 13 #[.slice a n c] V fun e w' => e = .returned (.tuple #[.int .i64 N1, .int .i64 (N2 : Nat)]) ∧ Hid (Nw V w')) := fun V hV => by rw [← hNN]; exact rnumber_any V _ n c b (hSb V hV) hbl
  have HT1 : Hid (∀ V, Nw W2 V → Calls Tryd.prog 14 #[.slice (some ⟨g2, 0, none⟩) n c2] V fun e w' => e = .returned (.string (str (txt b))) ∧ Hid (Nw V w')) := fun V hV => text_any V _ n c2 b (hSl V hV)
  have HT2 : Hid (∀ V, Nw W2 V → Calls Tryd.prog 15 #[.slice a n c] V fun e w' => e = .returned (.string (str (txt b))) ∧ V = w') := fun V hV => rtext_any V _ n c b (hSb V hV)
  have HC1 : Hid (∀ V, Nw W2 V → (convert 22 9 (.slice (some ⟨g2, 0, none⟩) (n + 3) c2)).run Tryd.prog V = .ok (.string (str (b ++ [55#8, 55#8, 0#8]))) V) := fun V hV => conv_any (hO.nw hV).old
  have HC2 : Hid (∀ V, Nw W2 V → (convert 22 9 (.slice a n c)).run Tryd.prog V = .ok (.string (str b)) V) := fun V hV => conv_any (hSb V hV)
  have hsa : str b ++ (⟨#[55, 55, 0]⟩ : ByteArray) = str (b ++ [55#8, 55#8, 0#8]) := by rw [str770, str_app]
  have HN0 := tHid n2
  have hssz : (str b).size ≤ 140737488351232 := by rw [str_size]; omega
  clear hb hO hSl hSb hNN n2 hbn
  generalize octN b = ON at *
  generalize octE b = OE at *
  generalize binN b = BN at *
  generalize binE b = BE at *
  go_enter Tryd.func3, Tryd.ntmps3
  go_upto_region 3 with fail
  have HO1' := tHid (HO1.out W2 (Fr.refl _ _))
  go_upto_region 4 with (first | (go_at_call 8; with_reducible refine HO1'.out.mono ?_; rintro e w1 ⟨rfl, K1⟩))
  have HO2' := tHid (HO2.out w1 K1.out)
  have HB1' := tHid (HB1.out w1 K1.out)
  have HB2' := tHid (HB2.out w1 K1.out)
  go_upto_region 7 with (first
    | (go_at_call 9; with_reducible refine HO2'.out.mono ?_; rintro e w2 ⟨rfl, rfl⟩)
    | (go_at_call 10; with_reducible refine HB1'.out.mono ?_; rintro e w3 ⟨rfl, rfl⟩)
    | (go_at_call 11; with_reducible refine HB2'.out.mono ?_; rintro e w4 ⟨rfl, K4⟩))
  have n4 := K1.out.trans K4.out
  have HN1' := tHid (HN1.out w4 n4)
  go_upto_region 8 with (first | (go_at_call 12; with_reducible refine HN1'.out.mono ?_; rintro e w5 ⟨rfl, K5⟩))
  have n5 := n4.trans K5.out
  have HN2' := tHid (HN2.out w5 n5)
  go_upto_region 9 with (first | (go_at_call 13; with_reducible refine HN2'.out.mono ?_; rintro e w6 ⟨rfl, K6⟩))
  have n6 := n5.trans K6.out
  have HT1' : Hid (Calls Tryd.prog 14 #[.slice (some ⟨g2, 0, none⟩) n c2] w6 fun e w' => e = .returned (.string (str (txt b))) ∧ Hid (Nw W2 w') ∧ Hid (Calls Tryd.prog 15 #[.slice a n c] w' fun e w2 => e = .returned (.string (str (txt b))) ∧ w' = w2) ∧ (convert 22 9 (.slice (some ⟨g2, 0, none⟩) (n + 3) c2)).run Tryd.prog w' = .ok (.string (str (b ++ [55#8, 55#8, 0#8]))) w' ∧ (convert 22 9 (.slice a n c)).run Tryd.prog w' = .ok (.string (str b)) w') := by
    refine (HT1.out w6 n6).mono ?_
    rintro e w' ⟨rfl, K⟩
    have q := n6.trans K.out
    exact ⟨rfl, q, HT2.out w' q, HC1.out w' q, HC2.out w' q⟩
  have HFF := tHid (fun V (h : Nw W2 V) => HF.out V (HN0.out.trans h))
  clear HF HN0 HO1 HO1' HO2 HO2' HB1 HB1' HB2 HB2' HN1 HN1' HN2 HN2' HT1 HT2 HC1 HC2 K1 K4 K5 K6 n4 n5 n6 r1 r2
  generalize str (txt b) = T at *
  generalize str (b ++ [55#8, 55#8, 0#8]) = S3 at *
  generalize str b = S0 at *
  have t1 : (T.toList == T.toList) = true := by simp
  have t2 : (S3.toList == S3.toList) = true := by simp
  have t3 : ((ON : Int) == (ON : Int)) = true := by simp
  have t4 : (BN == BN) = true := by simp
  have t5 : (N1 == N1) = true := by simp
  go_wp2_with (first
    | (go_at_call 14; with_reducible refine HT1'.out.mono ?_; rintro e w7 ⟨rfl, K7, HT2', hcv1, hcv2⟩)
    | (go_at_call 15; with_reducible refine HT2'.out.mono ?_; rintro e w8 ⟨rfl, rfl⟩))
  exact HFF.out _ K7.out
end
end fieldReads
end Go.Proofs.YtiinalgflmgnaaaDoor
