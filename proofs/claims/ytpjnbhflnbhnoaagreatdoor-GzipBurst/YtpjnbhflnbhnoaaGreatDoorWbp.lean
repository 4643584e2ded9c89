import Derived.Test.YtpjnbhflnbhnoaaGreatDoorWbo
import Derived.Lib.SlBytesConst
namespace Go.Proofs.YtpjnbhflnbhnoaaGreatDoor
open Go.RowKit
set_option linter.unusedVariables false
theorem cell_fr {w : World} {rb : Nat} {a : Array Value} {T : Nat} {fr : Nat × Nat} (h : w.heap[rb]? = some (.cells a T fr)) (j : Nat) (v : Value) (hv : a[j]? = some v) : w.cell? ⟨rb, j, none⟩ = some v := by
  simp [World.cell?, h, hv]
/-- Bytes of a constant text. -/
theorem const_old (w : World) (l : List By) (cs : Array Value) (hc : cs = (l.map bv).toArray) (n : Nat) (hn : l.length = n) (fr : Nat × Nat) (hl : n < 1000) : Old (w.alloc (.cells cs 5 fr)) (.slice (some ⟨w.heap.size, 0, none⟩) n n) l := by
  subst hc hn
  have hh : (w.alloc (.cells (l.map bv).toArray 5 fr)).heap[w.heap.size]? = some (.cells (l.map bv).toArray 5 fr) := by
    show (w.heap.push _)[w.heap.size]? = _
    simp
  refine .inr ⟨w.heap.size, by simp, 0, l.length, rfl, Nat.le_refl _, by omega, fun j hj => ?_⟩
  rw [Nat.zero_add]
  exact cell_fr hh j _ (by simp [hj])
/-- A copy of bytes. -/
theorem copyZ (w : World) (v : Value) (l : List By) (hx : Sl (fun _ => False) v l w) (hl : l.length ≤ 100000000000000) :
    ∃ g c W, Hid (∀ ty, (Builtin.append_ #[22, 22] ty #[.slice (some ⟨w.heap.size, 0, none⟩) 0 0, v]).run Tryz.prog (w.alloc (.cells #[] 5)) = .ok (.slice (some ⟨g, 0, none⟩) l.length c) W) ∧ Ow g (.slice (some ⟨g, 0, none⟩) l.length c) l W ∧ w.heap.size ≤ g ∧ Nw w W ∧ l.length ≤ c ∧ c < 9223372036854775808 := by
  obtain ⟨v', g, W, hap, hO, hF, hg⟩ := app_any (w.alloc (.cells #[] 5)) w.heap.size _ [] (Ow.empty w) v l (hx.nw ((Fr.refl _ _).alloc _)) (by simp; omega)
  rw [List.nil_append] at hO
  have hO' := hO
  obtain ⟨xs, rfl, _, q1, q2, _⟩ := hO'
  refine ⟨g, xs.length, W, hap, hO, ?_, Fr.then ((Fr.refl _ _).alloc _) hF (fun i hi => .inr (by omega)), q1, q2⟩
  rcases hg with h | h
  · omega
  · simp at h; omega
/-- A copy of bytes with some behind. -/
theorem copyM (w : World) (v : Value) (l : List By) (hx : Sl (fun _ => False) v l w) (m : List By) (k : Nat) (hk : m.length = k) (n : Nat) (hn : l.length + k = n) (hl : n ≤ 100000000000000) (cs : Array Value) (hcs : cs = (m.map bv).toArray) :
    ∃ g c W g2 c2 W2, Hid (∀ ty, (Builtin.append_ #[22, 22] ty #[.slice (some ⟨w.heap.size, 0, none⟩) 0 0, v]).run Tryz.prog (w.alloc (.cells #[] 5)) = .ok (.slice (some ⟨g, 0, none⟩) l.length c) W) ∧
      Hid (∀ ty, (Builtin.append_ #[22, 22] ty #[.slice (some ⟨g, 0, none⟩) l.length c, .slice (some ⟨W.heap.size, 0, none⟩) k k]).run Tryz.prog (W.alloc (.cells cs 5)) = .ok (.slice (some ⟨g2, 0, none⟩) n c2) W2) ∧ Ow g2 (.slice (some ⟨g2, 0, none⟩) n c2) (l ++ m) W2 ∧ Nw w W2 := by
  subst hcs hk
  obtain ⟨g, c, W, h1, h2, h3, h4, _⟩ := copyZ w v l hx (by omega)
  have hB : Bw W.heap.size m (W.alloc (.cells (m.map bv).toArray 5)) := by
    show (W.heap.push _)[W.heap.size]? = _
    simp
  have hO : Ow W.heap.size (.slice (some ⟨W.heap.size, 0, none⟩) m.length m.length) m (W.alloc (.cells (m.map bv).toArray 5)) := ⟨m, rfl, by simp, Nat.le_refl _, by omega, hB⟩
  have hN : Nw W (W.alloc (.cells (m.map bv).toArray 5)) := (Fr.refl _ _).alloc _
  obtain ⟨v2, g2, W2, hap, hO2, hF2, hg2⟩ := app_any _ g _ l (h2.nw hN) _ m (.inr ⟨_, fun h => h, hO.slb⟩) (by omega)
  have hO2' := hO2
  obtain ⟨xs, e, _⟩ := hO2'
  rw [List.length_append, hn] at e
  subst e
  exact ⟨g, c, W, g2, xs.length, W2, h1, hap, by rw [← hn, ← List.length_append] at *; exact hO2, Fr.then (h4.trans hN) hF2 (fun i hi => .inr (by omega))⟩
set_option maxHeartbeats 16000000 in
set_option maxRecDepth 100000 in
theorem zlives_any (w : World) (hT : TabT w) (hI : Tab w) (h0 : 0 < w.heap.size) : Calls Tryz.prog 26 #[] w fun e w' => e = .returned (.bool true) ∧ Nw w w' := by
  obtain ⟨P, hP⟩ : ∃ P : Ending → World → Prop, P = fun e w' => e = .returned (.bool true) ∧ Nw w w' := ⟨_, rfl⟩
  rw [← hP]
  have HF : Hid (∀ V, Nw w V → P (.returned (.bool true)) V) := fun V hV => by rw [hP]; exact ⟨rfl, hV⟩
  have HE : Hid (Calls Tryz.prog 11 #[.slice (some ⟨w.heap.size, 0, none⟩) 1 1, .agg #[.string ⟨#[110]⟩, .string ⟨#[]⟩, .slice none 0 0, .int .u32 0, .int .u8 0, .int .u8 0, .bool false, .bool false], .int .i64 0] (w.alloc (.cells #[.int .u8 97] 5 (1, 2))) fun e w1 => ∃ g c, e = .returned (.tuple #[.slice (some ⟨g, 0, none⟩) 26 c, .int .i64 0]) ∧ Hid (Ow g (.slice (some ⟨g, 0, none⟩) 26 c) wh0 w1 ∧ Nw w w1)) := by
    show Calls _ _ _ _ _
    have hN : Nw w (w.alloc (.cells #[.int .u8 97] 5 (1, 2))) := (Fr.refl _ _).alloc _
    have hO : Old (w.alloc (.cells #[.int .u8 97] 5 (1, 2))) (.slice (some ⟨w.heap.size, 0, none⟩) 1 1) [97#8] := const_old w [97#8] _ rfl 1 rfl (1, 2) (by decide)
    refine (zencode_stored (w.alloc (.cells #[.int .u8 97] 5 (1, 2))) m0 (.inl ⟨none, rfl, rfl⟩) (by decide) (by decide) (by decide) (hT.nw hN) (some ⟨w.heap.size, 0, none⟩) 1 [97#8] hO (by decide)).mono ?_
    rintro e w1 ⟨v, rfl, n1, _, h2⟩
    obtain ⟨g, hg, hO1⟩ := h2 m0_err
    rw [m0_whole] at hO1
    have hO1' := hO1
    obtain ⟨xs, rfl, _⟩ := hO1'
    exact ⟨g, xs.length, by rw [m0_err]; rfl, hO1, hN.trans n1⟩
  have HD1 : Hid (∀ V g c, Ow g (.slice (some ⟨g, 0, none⟩) 29 c) (wh0 ++ [0#8, 0#8, 0#8]) V → Nw w V → Calls Tryz.prog 20 #[.slice (some ⟨g, 0, none⟩) 29 c, .int .i64 9] V fun e w1 => ∃ pa pc gm mc, e = .returned (.tuple #[.slice pa 1 pc, .slice (some ⟨gm, 0, none⟩) 1 mc, .int .i64 0]) ∧ 1 ≤ mc ∧ mc < 9223372036854775808 ∧ Hid (Nw V w1 ∧ ∀ U, Nw w1 U → (convert 22 9 (.slice pa 1 pc)).run Tryz.prog U = .ok (.string ⟨#[97]⟩) U ∧ U.cell? ⟨gm, 0, none⟩ = some (.string ⟨#[110]⟩))) := fun V g c hO hV => by
    have hlen : (wh0 ++ [0#8, 0#8, 0#8]).length = 29 := by decide
    have hz := zdecode_any V (some ⟨g, 0, none⟩) c (wh0 ++ [0#8, 0#8, 0#8]) 9 (by rw [hlen]; exact hO.old) (by rw [hlen]; decide) (by decide) (by decide) (hT.nw hV) (hI.kept hV (fun e => e)) (Nat.lt_of_lt_of_le h0 hV.size)
    rw [hlen] at hz
    refine hz.mono ?_
    rintro e w1 (⟨y, q1, q2, q3, q4⟩ | ⟨out, ms, B, og, xs, vp, vm, q1, rfl, q3, q4, q5⟩)
    · rw [live1] at q1; cases q1
    · rw [live1] at q1
      injection q1 with e1 e2
      subst e1 e2
      obtain ⟨pa, pc, rfl, _, _⟩ := q3.sl.form
      have hxl : xs.length = 1 := by rw [q4.len]; rfl
      obtain ⟨x, rfl⟩ : ∃ x, xs = [x] := by
        match xs, hxl with
        | [x], _ => exact ⟨x, rfl⟩
      have hx1 : x.1 = md0 := by have := q4.eq; simpa using this
      have hrows := q4.rows
      cases og with
      | none => obtain ⟨_, hh⟩ := hrows; cases hh
      | some gm =>
        have hrw : OwR RM gm vm [x] w1 := hrows
        obtain ⟨mc, rfl, b1, b2⟩ := hrw.form
        have hcell := (OwR.cell rmOk hrw 0 0 x (.string (str x.1.nm)) rfl rfl).1
        refine ⟨pa, pc, gm, mc, rfl, b1, b2, q5, fun U hU => ⟨?_, ?_⟩⟩
        · have := conv_any ((q3.nw hU).sl)
          exact this
        · have := hU.cell hcell
          rw [hx1] at this
          exact this
  have HD2 : Hid (∀ V g c, Ow g (.slice (some ⟨g, 0, none⟩) 27 c) (wh0 ++ [88#8]) V → Nw w V → Calls Tryz.prog 20 #[.slice (some ⟨g, 0, none⟩) 27 c, .int .i64 9] V fun e w1 => e = .returned (.tuple #[.slice none 0 0, .slice none 0 0, .int .i64 5]) ∧ Hid (Nw V w1)) := fun V g c hO hV => by
    have hlen : (wh0 ++ [88#8]).length = 27 := by decide
    have hz := zdecode_any V (some ⟨g, 0, none⟩) c (wh0 ++ [88#8]) 9 (by rw [hlen]; exact hO.old) (by rw [hlen]; decide) (by decide) (by decide) (hT.nw hV) (hI.kept hV (fun e => e)) (Nat.lt_of_lt_of_le h0 hV.size)
    rw [hlen] at hz
    refine hz.mono ?_
    rintro e w1 (⟨y, q1, q2, rfl, q4⟩ | ⟨out, ms, B, og, xs, vp, vm, q1, _⟩)
    · rw [live2] at q1
      injection q1 with e1
      subst e1
      exact ⟨rfl, q4⟩
    · rw [live2] at q1; cases q1
  have HSU : Hid (∀ V, Nw w V → Calls Tryz.prog 12 #[.slice (some ⟨V.heap.size, 0, none⟩) 9 9] (V.alloc (.cells #[.int .u8 49, .int .u8 50, .int .u8 51, .int .u8 52, .int .u8 53, .int .u8 54, .int .u8 55, .int .u8 56, .int .u8 57] 5 (9, 10))) fun e w' => e = .returned (.int .u32 3421780262) ∧ (V.alloc (.cells #[.int .u8 49, .int .u8 50, .int .u8 51, .int .u8 52, .int .u8 53, .int .u8 54, .int .u8 55, .int .u8 56, .int .u8 57] 5 (9, 10))) = w') := fun V hV => by
    have hN : Nw V (V.alloc (.cells #[.int .u8 49, .int .u8 50, .int .u8 51, .int .u8 52, .int .u8 53, .int .u8 54, .int .u8 55, .int .u8 56, .int .u8 57] 5 (9, 10))) := (Fr.refl _ _).alloc _
    have hO : Old (V.alloc (.cells #[.int .u8 49, .int .u8 50, .int .u8 51, .int .u8 52, .int .u8 53, .int .u8 54, .int .u8 55, .int .u8 56, .int .u8 57] 5 (9, 10))) (.slice (some ⟨V.heap.size, 0, none⟩) 9 9) [49#8, 50#8, 51#8, 52#8, 53#8, 54#8, 55#8, 56#8, 57#8] := const_old V _ _ rfl 9 rfl (9, 10) (by decide)
    refine (zsum_any _ _ _ _ hO ((hT.nw hV).nw hN) (by decide)).mono ?_
    rintro e w' ⟨rfl, rfl⟩
    rw [sum9]
    exact ⟨rfl, rfl⟩
  have HCP : Hid (∀ V g c, Ow g (.slice (some ⟨g, 0, none⟩) 26 c) wh0 V → (∃ g1 c1 W1 g2 c2 W2, Hid (∀ ty, (Builtin.append_ #[22, 22] ty #[.slice (some ⟨V.heap.size, 0, none⟩) 0 0, .slice (some ⟨g, 0, none⟩) 26 c]).run Tryz.prog (V.alloc (.cells #[] 5)) = .ok (.slice (some ⟨g1, 0, none⟩) 26 c1) W1) ∧ Hid (∀ ty, (Builtin.append_ #[22, 22] ty #[.slice (some ⟨g1, 0, none⟩) 26 c1, .slice (some ⟨W1.heap.size, 0, none⟩) 3 3]).run Tryz.prog (W1.alloc (.cells #[.int .u8 0, .int .u8 0, .int .u8 0] 5)) = .ok (.slice (some ⟨g2, 0, none⟩) 29 c2) W2) ∧ Ow g2 (.slice (some ⟨g2, 0, none⟩) 29 c2) (wh0 ++ [0#8, 0#8, 0#8]) W2 ∧ Nw V W2) ∧
      (∃ g1 c1 W1 g2 c2 W2, Hid (∀ ty, (Builtin.append_ #[22, 22] ty #[.slice (some ⟨V.heap.size, 0, none⟩) 0 0, .slice (some ⟨g, 0, none⟩) 26 c]).run Tryz.prog (V.alloc (.cells #[] 5)) = .ok (.slice (some ⟨g1, 0, none⟩) 26 c1) W1) ∧ Hid (∀ ty, (Builtin.append_ #[22, 22] ty #[.slice (some ⟨g1, 0, none⟩) 26 c1, .slice (some ⟨W1.heap.size, 0, none⟩) 1 1]).run Tryz.prog (W1.alloc (.cells #[.int .u8 88] 5)) = .ok (.slice (some ⟨g2, 0, none⟩) 27 c2) W2) ∧ Ow g2 (.slice (some ⟨g2, 0, none⟩) 27 c2) (wh0 ++ [88#8]) W2 ∧ Nw V W2)) := fun V g c hO => by
    have hs : Sl (fun _ => False) (.slice (some ⟨g, 0, none⟩) 26 c) wh0 V := .inr ⟨g, fun h => h, hO.slb⟩
    have hl : wh0.length = 26 := rfl
    constructor
    · have := copyM V _ wh0 hs [0#8, 0#8, 0#8] 3 rfl 29 rfl (by decide) #[.int .u8 0, .int .u8 0, .int .u8 0] rfl
      rw [hl] at this
      exact this
    · have := copyM V _ wh0 hs [88#8] 1 rfl 27 rfl (by decide) #[.int .u8 88] rfl
      rw [hl] at this
      exact this
  have hcv1 : ∀ (w : World), (convert 22 22 (.slice (some ⟨w.heap.size, 0, none⟩) 1 1)).run Tryz.prog (w.alloc (.cells #[.int .u8 97] 5)) = .ok (.slice (some ⟨w.heap.size, 0, none⟩) 1 1) (w.alloc (.cells #[.int .u8 97] 5 (1, 2))) := fun w => Lib.run_convert_bytes_const w 22 5 #[.int .u8 97] 1 1 Tryz.underlying22 Tryz.underlying5
  have hcv2 : ∀ (w : World), (convert 22 22 (.slice (some ⟨w.heap.size, 0, none⟩) 9 9)).run Tryz.prog (w.alloc (.cells #[.int .u8 49, .int .u8 50, .int .u8 51, .int .u8 52, .int .u8 53, .int .u8 54, .int .u8 55, .int .u8 56, .int .u8 57] 5)) = .ok (.slice (some ⟨w.heap.size, 0, none⟩) 9 9) (w.alloc (.cells #[.int .u8 49, .int .u8 50, .int .u8 51, .int .u8 52, .int .u8 53, .int .u8 54, .int .u8 55, .int .u8 56, .int .u8 57] 5 (9, 10))) := fun w => Lib.run_convert_bytes_const w 22 5 #[.int .u8 49, .int .u8 50, .int .u8 51, .int .u8 52, .int .u8 53, .int .u8 54, .int .u8 55, .int .u8 56, .int .u8 57] 9 9 Tryz.underlying22 Tryz.underlying5
  clear hP hT hI h0
  go_enter Tryz.func26, Tryz.ntmps26
  go_upto_region 2 with (first | (go_at_call 11; with_reducible refine HE.out.mono ?_; rintro e w1 ⟨g, c, rfl, H1⟩))
  clear HE
  obtain ⟨⟨g1, c1, W1, g2, c2, W2, HA1, HA2, o2, n2⟩, _⟩ := HCP.out w1 g c H1.out.1
  have HDD := toHid2 (HD1.out W2 g2 c2 o2 (H1.out.2.trans n2))
  have HN2 : Hid (Nw w1 W2) := n2
  clear o2 n2 HD1
  go_upto_region 3 with (first
    | (at_builtin; refine Lib.wpList_append_run _ rfl _ _ 22 22 rfl (.slice (some ⟨w1.heap.size, 0, none⟩) 0 0) (.slice (some ⟨g, 0, none⟩) 26 c) (by simp [Act.eval]) (by simp [Act.eval]) _ _ (HA1.out _) ?_)
    | (at_builtin; refine Lib.wpList_append_run _ rfl _ _ 22 22 rfl (.slice (some ⟨g1, 0, none⟩) 26 c1) (.slice (some ⟨W1.heap.size, 0, none⟩) 3 3) (by simp [Act.eval]) (by simp [Act.eval]) _ _ (HA2.out _) ?_)
    | (go_at_call 20; with_reducible refine HDD.out.mono ?_; rintro e w3 ⟨pa, pc, gm, mc, rfl, m1, m2, H3⟩))
  clear HA1 HA2 HDD
  have n13 : Nw w1 w3 := HN2.out.trans H3.out.1
  obtain ⟨_, g4, c4, W4, g5, c5, W5, HA4, HA5, o5, n5⟩ := HCP.out w3 g c (H1.out.1.nw n13)
  have HDD := toHid2 (HD2.out W5 g5 c5 o5 ((H1.out.2.trans n13).trans n5))
  have HN5 : Hid (Nw w3 W5 ∧ Nw w w3) := ⟨n5, H1.out.2.trans n13⟩
  clear o5 n5 HD2 HCP n13 HN2 H1
  go_upto_region 4 with (first
    | (at_builtin; refine Lib.wpList_append_run _ rfl _ _ 22 22 rfl (.slice (some ⟨w3.heap.size, 0, none⟩) 0 0) (.slice (some ⟨g, 0, none⟩) 26 c) (by simp [Act.eval]) (by simp [Act.eval]) _ _ (HA4.out _) ?_)
    | (at_builtin; refine Lib.wpList_append_run _ rfl _ _ 22 22 rfl (.slice (some ⟨g4, 0, none⟩) 26 c4) (.slice (some ⟨W4.heap.size, 0, none⟩) 1 1) (by simp [Act.eval]) (by simp [Act.eval]) _ _ (HA5.out _) ?_)
    | (go_at_call 20; with_reducible refine HDD.out.mono ?_; rintro e w6 ⟨rfl, H6⟩))
  clear HA4 HA5 HDD
  have n36 : Nw w3 w6 := HN5.out.1.trans H6.out
  have n06 : Nw w w6 := HN5.out.2.trans n36
  have HS6 := toHid2 (HSU.out w6 n06)
  have nA : Nw w6 (w6.alloc (.cells #[.int .u8 49, .int .u8 50, .int .u8 51, .int .u8 52, .int .u8 53, .int .u8 54, .int .u8 55, .int .u8 56, .int .u8 57] 5 (9, 10))) := (Fr.refl _ _).alloc _
  obtain ⟨f1, f2⟩ := H3.out.2 _ (n36.trans nA)
  have HFF : Hid (P (.returned (.bool true)) (w6.alloc (.cells #[.int .u8 49, .int .u8 50, .int .u8 51, .int .u8 52, .int .u8 53, .int .u8 54, .int .u8 55, .int .u8 56, .int .u8 57] 5 (9, 10)))) := HF.out _ (n06.trans nA)
  clear HF HSU H3 HN5 H6 n36 n06 nA
  go_wp2_with (first
    | (go_at_call 12; with_reducible refine HS6.out.mono ?_; rintro e w7 ⟨rfl, hw⟩; (subst hw)))
  exact HFF.out
end Go.Proofs.YtpjnbhflnbhnoaaGreatDoor

namespace Go.Proofs.YtpjnbhflnbhnoaaGreatDoor
open Go.RowKit
set_option linter.unusedVariables false
/-- Decode of bytes in a slice of the call's own, where it answers an error. -/
theorem zdec_bad (w V : World) (g c L : Nat) (b : List By) (most : Int) (hO : Ow g (.slice (some ⟨g, 0, none⟩) L c) b V) (hL : b.length = L) (hbl : L ≤ 20000000000000) (hm1 : -9223372036854775808 ≤ most) (hm2 : most < 9223372036854775808) (hV : Nw w V) (hT : TabT w) (hI : Tab w) (h0 : 0 < w.heap.size) (y : Nat) (hd : decZ b most = .bad y) :
    Calls Tryz.prog 20 #[.slice (some ⟨g, 0, none⟩) L c, .int .i64 most] V fun e w1 => e = .returned (.tuple #[.slice none 0 0, .slice none 0 0, .int .i64 (y : Nat)]) ∧ y ≠ 0 ∧ Hid (Nw V w1) := by
  subst hL
  refine (zdecode_any V (some ⟨g, 0, none⟩) c b most hO.old hbl hm1 hm2 (hT.nw hV) (hI.kept hV (fun e => e)) (Nat.lt_of_lt_of_le h0 hV.size)).mono ?_
  rintro e w1 (⟨y', q1, q2, rfl, q4⟩ | ⟨out, ms, B, og, xs, vp, vm, q1, _⟩)
  · rw [hd] at q1
    injection q1 with e1
    subst e1
    exact ⟨rfl, q2, q4⟩
  · rw [hd] at q1; cases q1
/-- Where it answers bytes and members. -/
theorem zdec_ok (w V : World) (g c L : Nat) (b : List By) (most : Int) (hO : Ow g (.slice (some ⟨g, 0, none⟩) L c) b V) (hL : b.length = L) (hbl : L ≤ 20000000000000) (hm1 : -9223372036854775808 ≤ most) (hm2 : most < 9223372036854775808) (hV : Nw w V) (hT : TabT w) (hI : Tab w) (h0 : 0 < w.heap.size) (O : List By) (M : List Md) (hd : decZ b most = .ok O M) :
    Calls Tryz.prog 20 #[.slice (some ⟨g, 0, none⟩) L c, .int .i64 most] V fun e w1 => ∃ pa pc ma mc, e = .returned (.tuple #[.slice pa O.length pc, .slice ma M.length mc, .int .i64 0]) ∧ M.length ≤ mc ∧ mc < 9223372036854775808 ∧ Hid (Nw V w1 ∧ Old w1 (.slice pa O.length pc) O ∧ ∃ B og xs, MsI V.heap.size B og (.slice ma M.length mc) M xs w1) := by
  subst hL
  refine (zdecode_any V (some ⟨g, 0, none⟩) c b most hO.old hbl hm1 hm2 (hT.nw hV) (hI.kept hV (fun e => e)) (Nat.lt_of_lt_of_le h0 hV.size)).mono ?_
  rintro e w1 (⟨y', q1, q2, rfl, q4⟩ | ⟨out, ms, B, og, xs, vp, vm, q1, rfl, q3, q4, q5⟩)
  · rw [hd] at q1; cases q1
  · rw [hd] at q1
    injection q1 with e1 e2
    subst e1 e2
    obtain ⟨pa, pc, rfl, _, _⟩ := q3.sl.form
    obtain ⟨ma, mc, hv, b1, b2⟩ := q4.rows.form
    rw [q4.len] at hv b1
    subst hv
    exact ⟨pa, pc, ma, mc, rfl, b1, b2, q5, q3.old, B, og, xs, q4⟩
namespace gzipBounded
set_option maxHeartbeats 16000000 in
set_option maxRecDepth 100000 in
theorem walk (w : World) (a : Option Addr) (c : Nat) (b : List By) (most : Int) (hb : Old w (.slice a b.length c) b) (hbl : b.length ≤ 1048576) (hm1 : -9223372036854775808 ≤ most) (hm2 : most < 9223372036854775808) (hT : TabT w) (hI : Tab w) (h0 : 0 < w.heap.size) :
    Calls Tryz.prog 7 #[.slice a b.length c, .int .i64 most] w fun e w' => e = .returned (.bool true) ∧ Nw w w' := by
  obtain ⟨P, hP⟩ : ∃ P : Ending → World → Prop, P = fun e w' => e = .returned (.bool true) ∧ Nw w w' := ⟨_, rfl⟩
  rw [← hP]
  have HF : Hid (∀ V, Nw w V → P (.returned (.bool true)) V) := fun V hV => by rw [hP]; exact ⟨rfl, hV⟩
  have HLV : Hid (Calls Tryz.prog 26 #[] w fun e w' => e = .returned (.bool true) ∧ Hid (Nw w w')) := zlives_any w hT hI h0
  have HCP : Hid (∀ V, Nw w V → ∃ g1 c1 W1, Hid (∀ ty, (Builtin.append_ #[22, 22] ty #[.slice (some ⟨V.heap.size, 0, none⟩) 0 0, .slice a b.length c]).run Tryz.prog (V.alloc (.cells #[] 5)) = .ok (.slice (some ⟨g1, 0, none⟩) b.length c1) W1) ∧ Ow g1 (.slice (some ⟨g1, 0, none⟩) b.length c1) b W1 ∧ Nw V W1) := fun V hV => by
    obtain ⟨g1, c1, W1, k1, k2, k3, k4, k5, k6⟩ := copyZ V _ b ((Sl.later hb hV).mono (fun _ h => h.elim)) (by omega)
    exact ⟨g1, c1, W1, k1, k2, k4⟩
  have HB : Hid (TabT w ∧ Tab w ∧ 0 < w.heap.size) := ⟨hT, hI, h0⟩
  clear hP hb hT hI h0
  obtain ⟨L, hL⟩ : ∃ L, b.length = L := ⟨_, rfl⟩
  have HLL : Hid (b.length = L) := hL
  rw [hL] at hbl HCP ⊢
  clear hL
  cases hd : decZ b most with
  | bad y =>
    have HD : Hid (∀ V g1 c1, Ow g1 (.slice (some ⟨g1, 0, none⟩) L c1) b V → Nw w V → Calls Tryz.prog 20 #[.slice (some ⟨g1, 0, none⟩) L c1, .int .i64 most] V fun e w1 => e = .returned (.tuple #[.slice none 0 0, .slice none 0 0, .int .i64 (y : Nat)]) ∧ y ≠ 0 ∧ Hid (Nw V w1)) := fun V g1 c1 h1 h2 => zdec_bad w V g1 c1 L b most h1 HLL.out (by omega) hm1 hm2 h2 HB.out.1 HB.out.2.1 HB.out.2.2 y hd
    by_cases hr : most < 0 ∨ 4194304 < most
    · obtain rfl : y = 1 := by rw [decZ_arg hr] at hd; injection hd with hd; exact hd.symm
      clear hd
      go_enter Tryz.func7, Tryz.ntmps7
      go_upto_region 3 with (first | (go_at_call 26; with_reducible refine HLV.out.mono ?_; rintro e w1 ⟨rfl, H1⟩))
      obtain ⟨g1, c1, W1, HA1, o1, n1'⟩ := HCP.out w1 H1.out
      have n1 := H1.out.trans n1'
      have HD1 := toHid2 (HD.out W1 g1 c1 o1 n1)
      have HN1 := toHid2 n1
      clear HD HCP HLV o1 n1 HB HLL
      rcases hr with hr | hr
      · have d0 : decide (most < 0) = true := decide_eq_true hr
        go_wp2_with (first
          | (at_builtin; refine Lib.wpList_append_run _ rfl _ _ 22 22 rfl (.slice (some ⟨w1.heap.size, 0, none⟩) 0 0) (.slice a L c) (by simp [Act.eval]) (by simp [Act.eval]) _ _ (HA1.out _) ?_)
          | (go_at_call 20; with_reducible refine HD1.out.mono ?_; rintro e w3 ⟨rfl, hy, H3⟩))
        exact HF.out _ (HN1.out.trans H3.out)
      · have d0 : decide (most < 0) = false := decide_eq_false (by omega)
        have d2 : ¬ most < 0 := by omega
        have d1 : decide (4194304 < most) = true := decide_eq_true hr
        go_wp2_with (first
          | (at_builtin; refine Lib.wpList_append_run _ rfl _ _ 22 22 rfl (.slice (some ⟨w1.heap.size, 0, none⟩) 0 0) (.slice a L c) (by simp [Act.eval]) (by simp [Act.eval]) _ _ (HA1.out _) ?_)
          | (go_at_call 20; with_reducible refine HD1.out.mono ?_; rintro e w3 ⟨rfl, hy, H3⟩))
        exact HF.out _ (HN1.out.trans H3.out)
    · have d0 : decide (most < 0) = false := decide_eq_false (by omega)
      have d1 : ¬ most < 0 := by omega
      have d2 : ¬ 4194304 < most := by omega
      have d3 : decide (4194304 < most) = false := decide_eq_false d2
      clear hd hr
      go_enter Tryz.func7, Tryz.ntmps7
      go_upto_region 3 with (first | (go_at_call 26; with_reducible refine HLV.out.mono ?_; rintro e w1 ⟨rfl, H1⟩))
      obtain ⟨g1, c1, W1, HA1, o1, n1'⟩ := HCP.out w1 H1.out
      have n1 := H1.out.trans n1'
      have HD1 : Hid (Calls Tryz.prog 20 #[.slice (some ⟨g1, 0, none⟩) L c1, .int .i64 most] W1 fun e w1 => e = .returned (.tuple #[.slice none 0 0, .slice none 0 0, .int .i64 (y : Nat)]) ∧ ((y : Int) == 0) = false ∧ Hid (Nw W1 w1)) := (HD.out W1 g1 c1 o1 n1).mono (fun e w' h => ⟨h.1, by have := h.2.1; rw [beq_eq_false_iff_ne]; omega, h.2.2⟩)
      have HN1 := toHid2 n1
      clear HD HCP HLV o1 n1 HB HLL
      go_wp2_with (first
        | (at_builtin; refine Lib.wpList_append_run _ rfl _ _ 22 22 rfl (.slice (some ⟨w1.heap.size, 0, none⟩) 0 0) (.slice a L c) (by simp [Act.eval]) (by simp [Act.eval]) _ _ (HA1.out _) ?_)
        | (go_at_call 20; with_reducible refine HD1.out.mono ?_; rintro e w3 ⟨rfl, d4, H3⟩))
      exact HF.out _ (HN1.out.trans H3.out)
  | ok O M =>
    have hr : ¬ (most < 0 ∨ 4194304 < most) := fun h => by rw [decZ_arg h] at hd; cases hd
    obtain ⟨hd2, hol, hml⟩ := decZ_wider (by omega) hd
    have HD : Hid (∀ V g1 c1, Ow g1 (.slice (some ⟨g1, 0, none⟩) L c1) b V → Nw w V → Calls Tryz.prog 20 #[.slice (some ⟨g1, 0, none⟩) L c1, .int .i64 most] V fun e w1 => ∃ pa pc ma mc, e = .returned (.tuple #[.slice pa O.length pc, .slice ma M.length mc, .int .i64 0]) ∧ Hid (Nw V w1 ∧ Old w1 (.slice pa O.length pc) O)) := fun V g1 c1 h1 h2 => (zdec_ok w V g1 c1 L b most h1 HLL.out (by omega) hm1 hm2 h2 HB.out.1 HB.out.2.1 HB.out.2.2 O M hd).mono (fun e w1 ⟨pa, pc, ma, mc, e1, _, _, h⟩ => ⟨pa, pc, ma, mc, e1, h.out.1, h.out.2.1⟩)
    have HD2 : Hid (∀ V g1 c1, Ow g1 (.slice (some ⟨g1, 0, none⟩) L c1) b V → Nw w V → Calls Tryz.prog 20 #[.slice (some ⟨g1, 0, none⟩) L c1, .int .i64 4194304] V fun e w1 => ∃ pa pc ma mc, e = .returned (.tuple #[.slice pa O.length pc, .slice ma M.length mc, .int .i64 0]) ∧ Hid (Nw V w1 ∧ Old w1 (.slice pa O.length pc) O)) := fun V g1 c1 h1 h2 => (zdec_ok w V g1 c1 L b 4194304 h1 HLL.out (by omega) (by decide) (by decide) h2 HB.out.1 HB.out.2.1 HB.out.2.2 O M hd2).mono (fun e w1 ⟨pa, pc, ma, mc, e1, _, _, h⟩ => ⟨pa, pc, ma, mc, e1, h.out.1, h.out.2.1⟩)
    have HCV : Hid (∀ V v, Old V v O → (convert 22 9 v).run Tryz.prog V = .ok (.string (str O)) V) := fun V v h => conv_any h
    have hee : ((str O).toList == (str O).toList) = true := beq_self_eq_true _
    have d0 : decide (most < 0) = false := decide_eq_false (by omega)
    have d1 : ¬ most < 0 := by omega
    have d2 : ¬ 4194304 < most := by omega
    have d3 : decide (4194304 < most) = false := decide_eq_false d2
    clear hd hd2 hr
    generalize str O = S at *
    obtain ⟨OL, hOL⟩ : ∃ n, O.length = n := ⟨_, rfl⟩
    obtain ⟨ML, hML⟩ : ∃ n, M.length = n := ⟨_, rfl⟩
    rw [hOL, hML] at HD HD2
    rw [hOL] at hol
    rw [hML] at hml
    clear hOL hML
    have d4 : decide ((OL : Int) ≤ most) = true := decide_eq_true hol
    have d5 : (1 : Int) ≤ (ML : Int) := by omega
    go_enter Tryz.func7, Tryz.ntmps7
    go_upto_region 3 with (first | (go_at_call 26; with_reducible refine HLV.out.mono ?_; rintro e w1 ⟨rfl, H1⟩))
    obtain ⟨g1, c1, W1, HA1, o1, n1'⟩ := HCP.out w1 H1.out
    have n1 := H1.out.trans n1'
    have HD1 := toHid2 (HD.out W1 g1 c1 o1 n1)
    have HN1 := toHid2 n1
    clear HD HLV o1 n1
    go_upto_region 8 with (first
      | (at_builtin; refine Lib.wpList_append_run _ rfl _ _ 22 22 rfl (.slice (some ⟨w1.heap.size, 0, none⟩) 0 0) (.slice a L c) (by simp [Act.eval]) (by simp [Act.eval]) _ _ (HA1.out _) ?_)
      | (go_at_call 20; with_reducible refine HD1.out.mono ?_; rintro e w3 ⟨pa, pc, ma, mc, rfl, H3⟩))
    have n3 := HN1.out.trans H3.out.1
    obtain ⟨g4, c4, W4, HA4, o4, n4⟩ := HCP.out w3 n3
    have HD4 := toHid2 (HD2.out W4 g4 c4 o4 (n3.trans n4))
    have HN4 : Hid (Nw w3 W4 ∧ Nw w w3) := ⟨n4, n3⟩
    clear n3 o4 n4 HD1 HD2 HCP HA1 HN1
    go_upto_region 9 with (first
      | (at_builtin; refine Lib.wpList_append_run _ rfl _ _ 22 22 rfl (.slice (some ⟨w3.heap.size, 0, none⟩) 0 0) (.slice a L c) (by simp [Act.eval]) (by simp [Act.eval]) _ _ (HA4.out _) ?_)
      | (go_at_call 20; with_reducible refine HD4.out.mono ?_; rintro e w5 ⟨qa, qc, ka, kc, rfl, H5⟩))
    have n35 : Nw w3 w5 := HN4.out.1.trans H5.out.1
    have f1 := HCV.out w5 _ (Sl.later H3.out.2 n35)
    have f2 := HCV.out w5 _ H5.out.2
    have HFF := toHid2 (HF.out w5 (HN4.out.2.trans n35))
    clear n35 HCV HF H3 H5 HN4 HD4 HA4
    go_wp2_with fail
    exact HFF.out
end gzipBounded
end Go.Proofs.YtpjnbhflnbhnoaaGreatDoor
