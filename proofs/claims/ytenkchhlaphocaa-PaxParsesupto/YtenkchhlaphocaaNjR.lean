import Derived.Test.YtenkchhlaphocaaNjQ
namespace Go.Proofs.Ytenkchhlaphocaa
open Go.RowKit
set_option linter.unusedVariables false
/-! ### PaxParses -/
def TL : Bs := [57#8, 32#8, 120#8, 61#8, 121#8, 10#8, 33#8]
theorem str_tl (l : Bs) : str l ++ ⟨#[57, 32, 120, 61, 121, 10, 33]⟩ = str (l ++ TL) := by
  rw [← str_app]; rfl
theorem prs_short (b : Bs) (p : Nat) (acc : List Pr) (hp : p ≤ b.length) (h : acc.length ≤ p) : (prs b p acc).1.length ≤ b.length := by
  induction hk : b.length - p using Nat.strongRecOn generalizing p acc with
  | _ k ih =>
    by_cases hlt : p < b.length
    · cases hr : rc1 (b.drop p) with
      | bad n e => rw [prs_bad b p acc hlt n e hr]; simp
      | ok x n =>
        have h5 := rc1_ok hr
        rw [List.length_drop] at h5
        rw [prs_ok b p acc hlt x n hr]
        exact ih (b.length - (p + n)) (by omega) (p + n) (acc ++ [x]) (by omega) (by rw [List.length_append, List.length_singleton]; omega) rfl
    · rw [prs_end b p acc hlt]
      show acc.length ≤ _
      omega
set_option maxHeartbeats 16000000 in
set_option maxRecDepth 100000 in
theorem pparses_walk (w : World) (a : Option Addr) (n c : Nat) (l : Bs) (hl : Old w (.slice a n c) l) (hn : n ≤ 1048576) :
    Calls Try.prog 3 #[.slice a n c] w fun e w' => e = .returned (.bool true) ∧ Nw w w' := by
  obtain ⟨P, hP⟩ : ∃ P : Ending → World → Prop, P = fun e w' => e = .returned (.bool true) ∧ Nw w w' := ⟨_, rfl⟩
  rw [← hP]
  have HF : Hid (∀ V, Nw w V → P (.returned (.bool true)) V) := fun V hV => by rw [hP]; exact ⟨rfl, hV⟩
  clear hP
  obtain ⟨hln, k1, k2⟩ := sl_len hl
  -- the bytes with a tail behind them
  have hN0 : Nw w (w.alloc (.cells #[] 5)) := (Fr.refl _ _).alloc _
  obtain ⟨v1, g1, W1, a1, o1, f1, d1⟩ := app_any _ _ _ [] (Ow.empty w) (.slice a n c) l ((hl.mono (fun _ h => h.elim) : Sl (fun _ => False) _ _ _).nw hN0) (by simp; omega)
  obtain ⟨v2, g2, W2, a2, o2, f2, d2⟩ := app_str W1 g1 v1 _ o1 (str TL) (by rw [str_size]; simp [TL]; omega)
  rw [bys_str, List.nil_append] at o2
  have hs0 : (w.alloc (.cells #[] 5)).heap.size = w.heap.size + 1 := by simp
  have hg1 : w.heap.size ≤ g1 := by rcases d1 with e | e <;> omega
  have hW1 : w.heap.size ≤ W1.heap.size := by have := f1.size; omega
  have hg2 : w.heap.size ≤ g2 := by rcases d2 with e | e <;> omega
  have hNW2 : Nw w W2 := (hN0.then f1 (fun i hi => .inr (by omega))).then f2 (fun i hi => .inr (by omega))
  have hg2l : g2 < W2.heap.size := o2.lt
  have hTL : (l ++ TL).length = n + 7 := by rw [List.length_append, hln]; rfl
  obtain ⟨c2, hv2, q1, q2, hcut⟩ := o2.cut n (by omega)
  rw [hTL] at hv2 q1
  subst hv2
  have htk : (l ++ TL).take n = l := List.take_left' hln
  rw [htk] at hcut
  have HA1 := tHid a1
  have HA2 : Hid (∀ ty, (Builtin.append_ #[22, 9] ty #[v1, .string ⟨#[57, 32, 120, 61, 121, 10, 33]⟩]).run Try.prog W1 = .ok (.slice (some ⟨g2, 0, none⟩) (n + 7) c2) W2) := a2
  have hsl : ∀ V, Nw W2 V → Sl (fun _ => False) (.slice (some ⟨g2, 0, none⟩) n c2) l V := fun V hV => .inr ⟨g2, fun h => h, (hcut.nw hV).slb⟩
  have HP1 := tHid (parse_any W2 _ _ _ l (hsl W2 (Fr.refl _ _)) (by omega))
  have HP2 : Hid (∀ V, Nw W2 V → Calls Try.prog 4 #[.slice (some ⟨g2, 0, none⟩) n c2] V (PaA V l)) := fun V hV => parse_any V _ _ _ l (hsl V hV) (by omega)
  have HP3 : Hid (∀ V, Nw W2 V → Calls Try.prog 5 #[.slice a n c] V (PaA V l)) := fun V hV => rparse_any V _ _ _ l ((hl.nw hNW2).nw hV) (by omega)
  have HCV : Hid (∀ V, Nw W2 V → (convert 22 9 (.slice (some ⟨g2, 0, none⟩) (n + 7) c2)).run Try.prog V = .ok (.string (str (l ++ TL))) V ∧ (convert 22 9 (.slice a n c)).run Try.prog V = .ok (.string (str l)) V) := fun V hV => by
    have hs : Sl (fun _ => False) (.slice (some ⟨g2, 0, none⟩) (n + 7) c2) (l ++ TL) V := .inr ⟨g2, fun h => h, (o2.nw hV).slb⟩
    exact ⟨conv_any hs, conv_any ((hl.nw hNW2).nw hV)⟩
  have HG := tHid (And.intro hNW2 (And.intro hg2 (And.intro hg2l o2)))
  have hst := str_tl l
  have hss : (str l).size ≤ 1048576 := by rw [str_size]; omega
  have hlen := prs_short l 0 [] (by omega) (by simp)
  have her := prs_errno l 0 []
  have HLEN := tHid (show (prs l 0 []).1.length ≤ 1000000000 by omega)
  have hat : (prs l 0 []).2.1 ≤ 1048576 := by omega
  have hen : (prs l 0 []).2.2 ≤ 142 := her.1
  have hnc2 : (n : Int) ≤ (c2 : Int) := by omega
  have hn7 : ((n + 7 : Nat) : Int) = (n : Int) + 7 := by omega
  clear hl hsl hcut hN0 hs0 hg1 hW1 hg2 hNW2 hg2l htk a1 a2 o1 f1 d1 f2 d2 hlen her hln
  obtain ⟨L7, hL7⟩ : ∃ L7, n + 7 = L7 := ⟨_, rfl⟩
  rw [hL7] at HA2 HCV HG hTL q1
  unfold PaA at HP1 HP2 HP3
  generalize prs l 0 [] = R at *
  obtain ⟨R1, R2, R3⟩ := R
  simp only at HP1 HP2 HP3 HLEN hat hen
  go_enter Try.func3, Try.ntmps3
  go_upto_region 5 with (first
    | (at_builtin; refine Lib.wpList_append_run _ rfl _ _ 22 22 rfl (.slice (some ⟨w.heap.size, 0, none⟩) 0 0) (.slice a n c) (by first | rfl | simp [Act.eval]) (by first | rfl | simp [Act.eval]) _ _ (HA1.out _) ?_)
    | (at_builtin; refine Lib.wpList_append_run _ rfl _ _ 22 9 rfl v1 (.string ⟨#[57, 32, 120, 61, 121, 10, 33]⟩) (by first | rfl | simp [Act.eval]) (by first | rfl | simp [Act.eval]) _ _ (HA2.out _) ?_)
    | (go_at_call 5; with_reducible refine (HP3.out _ (Nw.trans H1.out.1 H2.out.1)).mono ?_; rintro e w5 ⟨v5, rfl, H3⟩)
    | (go_at_call 4; with_reducible refine (HP2.out _ H1.out.1).mono ?_; rintro e w4 ⟨v4, rfl, H2⟩)
    | (go_at_call 4; with_reducible refine HP1.out.mono ?_; rintro e w3 ⟨v3, rfl, H1⟩))
  obtain ⟨n1, og1, p1, r1⟩ := H1.out
  obtain ⟨n2, og2, p2, r2⟩ := H2.out
  obtain ⟨n3, og3, p3, r3⟩ := H3.out
  obtain ⟨cv1, cv2⟩ := HCV.out w5 ((n1.trans n2).trans n3)
  obtain ⟨gN, gg, gl, gO⟩ := HG.out
  have s1 := n1.size
  have s2 := n2.size
  have s3 := n3.size
  have l1 := p1.lt
  have l2 := p2.lt
  have l3 := p3.lt
  have HN5 := tHid (gN.trans ((n1.trans n2).trans n3))
  have HO : Hid (Ow g2 (.slice (some ⟨g2, 0, none⟩) L7 c2) (l ++ TL) w5) := gO.nw ((n1.trans n2).trans n3)
  have HQ1 : Hid (∀ V, Fr (fun k => k = g2) w5 V → OgR RP og1 v3 R1 V ∧ OgR RP og2 v4 R1 V ∧ OgR RP og3 v5 R1 V) := fun V hV => ⟨(p1.nw (n2.trans n3)).kept hV (fun g hg e => by have := r1 g hg; omega), (p2.nw n3).kept hV (fun g hg e => by have := r2 g hg; omega), p3.kept hV (fun g hg e => by have := r3 g hg; omega)⟩
  have HQ2 : Hid (∀ k, (og1 = some k → og2 ≠ some k ∧ og3 ≠ some k) ∧ (og1 = some k → w.heap.size ≤ k)) := fun k => ⟨fun h => ⟨fun h2 => by have := l1 k h; have := r2 k h2; omega, fun h3 => by have := l1 k h; have := r3 k h3; omega⟩, fun h => by have := r1 k h; have := gN.size; omega⟩
  have HGG := tHid gg
  rw [← hst] at cv1
  have hLn : L7 ≤ 1048583 := by omega
  clear n1 p1 r1 n2 p2 r2 n3 p3 r3 gN gg gl gO s1 s2 s3 l1 l2 l3 H1 H2 H3 HP1 HP2 HP3 HCV HG HA1 HA2 hst hL7 hn7
  generalize str l = sl at *
  go_upto_region 8 with fail
  go_loopg [13] L7 (fun kx i wr => ∃ I : Nat, I ≤ L7 ∧ L7 - I ≤ kx ∧ i = .int .i64 I ∧ Hid (∃ l' : Bs, l'.length = L7 ∧ Ow g2 (.slice (some ⟨g2, 0, none⟩) L7 c2) l' wr ∧ Fr (fun k => k = g2) w5 wr))
  case atStart => exact ⟨0, by omega, by omega, rfl, l ++ TL, hTL, HO.out, Fr.refl _ _⟩
  case round =>
    obtain ⟨I, hI, hkx, rfl, HI⟩ := hrel
    obtain ⟨l', hl', hO, hF⟩ := HI.out
    by_cases hlt : I < L7
    · obtain ⟨x0, x1⟩ := hO.at I (by omega)
      have hput := hO.put I (by omega) 238#8 238 rfl
      obtain ⟨U, hU⟩ : ∃ U, wr.setCell ⟨g2, I, none⟩ (.int .u8 238) = U := ⟨_, rfl⟩
      rw [hU] at hput
      have HI2 : Hid (∃ l' : Bs, l'.length = L7 ∧ Ow g2 (.slice (some ⟨g2, 0, none⟩) L7 c2) l' U ∧ Fr (fun k => k = g2) w5 U) := ⟨l'.set I 238#8, by rw [List.length_set]; exact hl', hput, by rw [← hU]; exact hF.setCell _ _ (.inl rfl)⟩
      generalize (l'[I]'(by omega)).toNat = y at *
      clear HF HI hO hF hput HQ1 HQ2 HO HN5 cv1 cv2
      go_wp2_with fail
      go_roundg (L7 - (I + 1))
      case measure => omega
      case rel => exact ⟨I + 1, by omega, by omega, by first | rfl | (congr 1), HI2⟩
    · obtain ⟨p1, p2, p3⟩ := HQ1.out wr hF
      have HC1 := tHid (wiped_any wr og1 v3 v5 R1 R1 p1 HLEN.out ((p3.slr rpOk).mono (fun k hk h3 => (((HQ2.out k).1 hk).2 h3))))
      have HC2 : Hid (∀ V, Fr (fun k => og1 = some k) wr V → Calls Try.prog 7 #[v4, v5] V fun e w' => e = .returned (.bool (decide (R1 = R1))) ∧ Nw V w') := fun V hV => same_any V v4 v5 R1 R1 ((p2.kept hV (fun g hg e => ((HQ2.out g).1 e).1 hg)).slr rpOk) ((p3.kept hV (fun g hg e => ((HQ2.out g).1 e).2 hg)).slr rpOk)
      rw [decide_eq_true rfl] at HC1 HC2
      have HF2 : Hid (∀ V V', Fr (fun k => og1 = some k) wr V → Nw V V' → P (.returned (.bool true)) V') := fun V V' h1 h2 => HF.out V' ((((HN5.out.then hF (fun i hi => .inr (by rw [hi]; exact HGG.out))).then h1 (fun i hi => .inr ((HQ2.out i).2 hi)))).trans h2)
      obtain rfl : I = L7 := by omega
      clear HF HI hO hF HQ1 HQ2 HO HN5 cv1 cv2 p1 p2 p3
      go_wp2_with (first
        | (go_at_call 6; with_reducible refine HC1.out.mono ?_; rintro e w6 ⟨rfl, H6⟩; have H6 := tHid H6)
        | (go_at_call 7; with_reducible refine (HC2.out _ H6.out).mono ?_; rintro e w7 ⟨rfl, H7⟩; have H7 := tHid H7))
      first | exact HF2.out _ _ H6.out H7.out | (go_ret; exact HF2.out _ _ H6.out H7.out)
end Go.Proofs.Ytenkchhlaphocaa
