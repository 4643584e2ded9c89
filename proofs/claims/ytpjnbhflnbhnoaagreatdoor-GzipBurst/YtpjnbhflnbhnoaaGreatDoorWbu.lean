import Derived.Test.YtpjnbhflnbhnoaaGreatDoorWbs
namespace Go.Proofs.YtpjnbhflnbhnoaaGreatDoor
open Go.RowKit
set_option linter.unusedVariables false
set_option maxHeartbeats 4000000 in
/-- Too many bytes for deflate. -/
theorem dbig_any (w : World) (a : Option Addr) (n c : Nat) (hn : 4194304 < n) :
    Calls Tryz.prog 17 #[.slice a n c, .int .i64 0] w fun e w' => e = .returned (.tuple #[.slice none 0 0, .int .i64 2]) ∧ Nw w w' := by
  obtain ⟨P, hP⟩ : ∃ P : Ending → World → Prop, P = fun e w' => e = .returned (.tuple #[.slice none 0 0, .int .i64 2]) ∧ Nw w w' := ⟨_, rfl⟩
  rw [← hP]
  have HF : Hid (P (.returned (.tuple #[.slice none 0 0, .int .i64 2])) w) := by rw [hP]; exact ⟨rfl, Fr.refl _ _⟩
  have HW : Hid (Calls Tryz.prog 36 #[.int .i64 0] w fun e w1 => e = .returned (.bool true) ∧ w = w1) := isWay0 w
  clear hP
  have z1 : (4194304 : Int) < (n : Int) := by omega
  go_enter Tryz.func17, Tryz.ntmps17
  go_wp2_with (first | (go_at_call 36; with_reducible refine HW.out.mono ?_; rintro e w1 ⟨rfl, rfl⟩))
  exact HF.out
/-- What Encode answers to too many bytes. -/
def bigE (m : Mb) : Nat := if m.err = 0 then 2 else m.err
theorem bigE_nz (m : Mb) : bigE m ≠ 0 := by unfold bigE; split <;> omega
set_option maxHeartbeats 16000000 in
set_option maxRecDepth 100000 in
theorem zencode_big (w : World) (m : Mb) (hx : Old w (.slice m.xa m.ex.length m.xc) m.ex) (h1 : m.nm.size ≤ 140737488351232) (h2 : m.cm.size ≤ 140737488351232) (h3 : m.tm < 4294967296) (hT : TabT w) (a : Option Addr) (c n : Nat) (hn : 4194304 < n) :
    Calls Tryz.prog 11 #[.slice a n c, .agg m.row, .int .i64 0] w fun e w' => e = .returned (.tuple #[.slice none 0 0, .int .i64 (bigE m : Nat)]) ∧ Nw w w' := by
  obtain ⟨P, hP⟩ : ∃ P : Ending → World → Prop, P = fun e w' => e = .returned (.tuple #[.slice none 0 0, .int .i64 (bigE m : Nat)]) ∧ Nw w w' := ⟨_, rfl⟩
  rw [← hP]
  obtain ⟨W0, hW0⟩ : ∃ W0, w.alloc (.cells m.row 25) = W0 := ⟨_, rfl⟩
  have row0 : W0.heap[w.heap.size]? = some (.cells m.row 25) := by rw [← hW0]; exact new_heap _ _
  have n0 : Nw w W0 := by rw [← hW0]; exact (Fr.refl _ _).alloc _
  have r0 : W0.cell? ⟨w.heap.size, 0, none⟩ = some (.string m.nm) := (row_cell row0 0 _ rfl).1
  have r1 : W0.cell? ⟨w.heap.size, 1, none⟩ = some (.string m.cm) := (row_cell row0 1 _ rfl).1
  have r2 : W0.cell? ⟨w.heap.size, 2, none⟩ = some (.slice m.xa m.ex.length m.xc) := (row_cell row0 2 _ rfl).1
  have r3 : W0.cell? ⟨w.heap.size, 3, none⟩ = some (.int .u32 m.tm) := (row_cell row0 3 _ rfl).1
  have r4 : W0.cell? ⟨w.heap.size, 4, none⟩ = some (.int .u8 m.fl.toNat) := (row_cell row0 4 _ rfl).1
  have r5 : W0.cell? ⟨w.heap.size, 5, none⟩ = some (.int .u8 m.sy.toNat) := (row_cell row0 5 _ rfl).1
  have r6 : W0.cell? ⟨w.heap.size, 6, none⟩ = some (.bool m.tx) := (row_cell row0 6 _ rfl).1
  have r7 : W0.cell? ⟨w.heap.size, 7, none⟩ = some (.bool m.sm) := (row_cell row0 7 _ rfl).1
  have HMR : Hid (m.row = #[.string m.nm, .string m.cm, .slice m.xa m.ex.length m.xc, .int .u32 m.tm, .int .u8 m.fl.toNat, .int .u8 m.sy.toNat, .bool m.tx, .bool m.sm]) := rfl
  have HB : Hid (∀ V, Calls Tryz.prog 17 #[.slice a n c, .int .i64 0] V fun e w' => e = .returned (.tuple #[.slice none 0 0, .int .i64 2]) ∧ Hid (Nw V w')) := fun V => dbig_any V a n c hn
  have HH : Hid (Calls Tryz.prog 10 #[.agg m.row] W0 fun e w1 => ∃ ha hl hc, e = .returned (.tuple #[.slice ha hl hc, .int .i64 (m.err : Nat)]) ∧ Hid (Nw w w1)) := by
    show Calls _ _ _ _ _
    refine (zhead_any W0 m (Sl.later hx n0) h1 h2 h3 (hT.nw n0)).mono ?_
    rintro e w1 ⟨v, rfl, hN1, hno, hok⟩
    by_cases he : m.err = 0
    · obtain ⟨g, hg, hO⟩ := hok he
      obtain ⟨xs, rfl, _⟩ := id hO
      exact ⟨_, _, _, rfl, n0.trans hN1⟩
    · obtain rfl := hno he
      exact ⟨_, _, _, rfl, n0.trans hN1⟩
  obtain ⟨er, her⟩ : ∃ er, m.err = er := ⟨_, rfl⟩
  have hbe : bigE m = if er = 0 then 2 else er := by unfold bigE; rw [her]
  have HF : Hid (∀ V, Nw w V → P (.returned (.tuple #[.slice none 0 0, .int .i64 ((if er = 0 then 2 else er : Nat) : Int)])) V) := fun V hV => by rw [hP, ← hbe]; exact ⟨rfl, hV⟩
  rw [HMR.out] at hW0 HH ⊢
  rw [her] at HH
  clear hP hT hx row0 n0 HMR her hbe
  generalize m.ex.length = X at *
  generalize m.fl.toNat = F at *
  generalize m.sy.toNat = S at *
  by_cases he : er = 0
  · rw [if_pos he] at HF
    subst he
    go_enter Tryz.func11, Tryz.ntmps11
    go_wp2_with (first
      | (go_at_call 10; with_reducible refine HH.out.mono ?_; rintro e w1 ⟨ha, hl, hc, rfl, H1⟩)
      | (go_at_call 17; with_reducible refine (HB.out _).mono ?_; rintro e w2 ⟨rfl, H2⟩))
    exact HF.out _ (H1.out.trans H2.out)
  · rw [if_neg he] at HF
    have hz : ((er : Int) != 0) = true := by simp only [bne_iff_ne, ne_eq]; omega
    go_enter Tryz.func11, Tryz.ntmps11
    go_wp2_with (first
      | (go_at_call 10; with_reducible refine HH.out.mono ?_; rintro e w1 ⟨ha, hl, hc, rfl, H1⟩))
    exact HF.out _ H1.out
theorem enc_big (w : World) (a : Option Addr) (c : Nat) (b : List By) (hb : Old w (.slice a b.length c) b) (hbl : 4194304 < b.length) (hb2 : b.length ≤ 140737488351232) (m : Mb) (hx : Old w (.slice m.xa m.ex.length m.xc) m.ex) (h1 : m.nm.size ≤ 140737488351232) (h2 : m.cm.size ≤ 140737488351232) (h3 : m.tm < 4294967296) (hT : TabT w) (V V' : World) (hV : Nw w V) (hV' : Nw (V.alloc (.cells #[] 5)) V') :
    ∃ g1 c1 W1, (∀ ty, (Builtin.append_ #[22, 22] ty #[.slice (some ⟨V.heap.size, 0, none⟩) 0 0, .slice a b.length c]).run Tryz.prog V' = .ok (.slice (some ⟨g1, 0, none⟩) b.length c1) W1) ∧ Nw w W1 ∧ Hid (∀ W2, Nw W1 W2 → Calls Tryz.prog 11 #[.slice (some ⟨g1, 0, none⟩) b.length c1, .agg m.row, .int .i64 0] W2 fun e w' => e = .returned (.tuple #[.slice none 0 0, .int .i64 (bigE m : Nat)]) ∧ Hid (Nw w w')) := by
  obtain ⟨g1, c1, W1, k1, k2, k3⟩ := copyV V V' _ b ((Sl.later hb hV).mono (fun _ h => h.elim)) (by omega) hV'
  refine ⟨g1, c1, W1, k1, hV.trans k3, fun W2 hW2 => ?_⟩
  have hN : Nw w W2 := hV.trans (k3.trans hW2)
  exact (zencode_big W2 m (Sl.later hx hN) h1 h2 h3 (hT.nw hN) (some ⟨g1, 0, none⟩) c1 b.length hbl).mono (fun e w' h => ⟨h.1, hN.trans h.2⟩)
namespace gzipBurst
section
attribute [local go_sem ↓] appC_fold
set_option maxHeartbeats 32000000 in
set_option maxRecDepth 100000 in
theorem walk_big (w : World) (a : Option Addr) (c : Nat) (b : List By) (hb : Old w (.slice a b.length c) b) (hbl : 4194304 < b.length) (hb2 : b.length ≤ 140737488351232) (m : Mb) (hx : Old w (.slice m.xa m.ex.length m.xc) m.ex) (h1 : m.nm.size ≤ 140737488351232) (h2 : m.cm.size ≤ 140737488351232) (h3 : m.tm < 4294967296) (f : Int) (tu : Nat) (hT : TabT w) (hI : Tab w) (h0 : 0 < w.heap.size) :
    Calls Tryz.prog 6 #[.slice a b.length c, .agg m.row, .int .i64 f, .int .u32 tu] w fun e w' => e = .returned (.bool true) ∧ Nw w w' := by
  obtain ⟨P, hP⟩ : ∃ P : Ending → World → Prop, P = fun e w' => e = .returned (.bool true) ∧ Nw w w' := ⟨_, rfl⟩
  rw [← hP]
  have HF : Hid (∀ V, Nw w V → P (.returned (.bool true)) V) := fun V hV => by rw [hP]; exact ⟨rfl, hV⟩
  obtain ⟨W0, hW0⟩ : ∃ W0, w.alloc (.cells m.row 25) = W0 := ⟨_, rfl⟩
  have row0 : W0.heap[w.heap.size]? = some (.cells m.row 25) := by rw [← hW0]; exact new_heap _ _
  have n0 : Nw w W0 := by rw [← hW0]; exact (Fr.refl _ _).alloc _
  have HLV : Hid (Calls Tryz.prog 26 #[] W0 fun e w' => e = .returned (.bool true) ∧ Hid (Nw W0 w')) := zlives_any W0 (hT.nw n0) (hI.kept n0 (fun e => e)) (Nat.lt_of_lt_of_le h0 n0.size)
  have HMR : Hid (m.row = #[.string m.nm, .string m.cm, .slice m.xa m.ex.length m.xc, .int .u32 m.tm, .int .u8 m.fl.toNat, .int .u8 m.sy.toNat, .bool m.tx, .bool m.sm]) := rfl
  have HH : Hid (∀ V, Nw W0 V → V.heap[w.heap.size]? = some (.cells m.row 25) ∧ Calls Tryz.prog 10 #[.agg m.row] V fun e w1 => ∃ ha hl hc, e = .returned (.tuple #[.slice ha hl hc, .int .i64 (m.err : Nat)]) ∧ Hid (Nw V w1 ∧ (m.err = 0 → hl = m.head.length))) := fun V hV => by
    refine ⟨hV.heap row0, (zhead_any V m (Sl.later hx (n0.trans hV)) h1 h2 h3 (hT.nw (n0.trans hV))).mono ?_⟩
    rintro e w1 ⟨v, rfl, hN1, hno, hok⟩
    by_cases he : m.err = 0
    · obtain ⟨g, hg, hO⟩ := hok he
      obtain ⟨xs, rfl, _⟩ := id hO
      exact ⟨_, _, _, rfl, hN1, fun _ => rfl⟩
    · obtain rfl := hno he
      exact ⟨_, _, _, rfl, hN1, fun e => absurd e he⟩
  have HE : Hid (∀ V V', Nw W0 V → Nw (V.alloc (.cells #[] 5)) V' → ∃ g1 c1 W1, (∀ ty, (appC #[22, 22] ty #[.slice (some ⟨V.heap.size, 0, none⟩) 0 0, .slice a b.length c]).run Tryz.prog V' = .ok (.slice (some ⟨g1, 0, none⟩) b.length c1) W1) ∧ Nw W0 W1 ∧ Hid (∀ W2, Nw W1 W2 → Calls Tryz.prog 11 #[.slice (some ⟨g1, 0, none⟩) b.length c1, .agg m.row, .int .i64 0] W2 fun e w' => e = .returned (.tuple #[.slice none 0 0, .int .i64 (bigE m : Nat)]) ∧ Hid (Nw W0 w'))) := fun V V' hV hV' => enc_big W0 a c b (Sl.later hb n0) hbl hb2 m (Sl.later hx n0) h1 h2 h3 (hT.nw n0) V V' hV hV'
  have HS : Hid (∀ V, Nw W0 V → V.cell? ⟨w.heap.size, 0, none⟩ = some (.string m.nm) ∧ V.cell? ⟨w.heap.size, 1, none⟩ = some (.string m.cm) ∧ V.cell? ⟨w.heap.size, 2, none⟩ = some (.slice m.xa m.ex.length m.xc) ∧ V.cell? ⟨w.heap.size, 3, none⟩ = some (.int .u32 m.tm) ∧ V.cell? ⟨w.heap.size, 4, none⟩ = some (.int .u8 m.fl.toNat) ∧ V.cell? ⟨w.heap.size, 5, none⟩ = some (.int .u8 m.sy.toNat) ∧ V.cell? ⟨w.heap.size, 6, none⟩ = some (.bool m.tx) ∧ V.cell? ⟨w.heap.size, 7, none⟩ = some (.bool m.sm)) := fun V hV => by
    have row1 := hV.heap row0
    exact ⟨(row_cell row1 0 _ rfl).1, (row_cell row1 1 _ rfl).1, (row_cell row1 2 _ rfl).1, (row_cell row1 3 _ rfl).1, (row_cell row1 4 _ rfl).1, (row_cell row1 5 _ rfl).1, (row_cell row1 6 _ rfl).1, (row_cell row1 7 _ rfl).1⟩
  have HN0 := toHid2 (And.intro n0 (And.intro hT (And.intro hI (And.intro h0 h3))))
  obtain ⟨er, her⟩ : ∃ er, m.err = er := ⟨_, rfl⟩
  obtain ⟨N, hN⟩ : ∃ N, b.length = N := ⟨_, rfl⟩
  have HER : Hid (m.err = er ∧ b.length = N) := ⟨her, hN⟩
  rw [HMR.out] at hW0 HH HE ⊢
  rw [her] at HH
  obtain ⟨eb, heb⟩ : ∃ eb, bigE m = eb := ⟨_, rfl⟩
  have hebz : eb ≠ 0 := by rw [← heb]; exact bigE_nz m
  rw [heb] at HE
  clear heb
  rw [hN] at HE hbl hb2 ⊢
  clear hP hT hx row0 n0 HMR hb hI h0 her hN
  generalize m.ex.length = X at *
  generalize m.fl.toNat = F at *
  generalize m.sy.toNat = S at *
  have HI8 : Hid ((Tryz.prog.info? 25).map (·.size) = some (#[Value.string m.nm, .string m.cm, .slice m.xa X m.xc, .int .u32 m.tm, .int .u8 F, .int .u8 S, .bool m.tx, .bool m.sm] : Array Value).size) := by show _ = _; kernel_rfl
  go_enter Tryz.func6, Tryz.ntmps6
  go_upto_region 3 with (first | (go_at_call 26; with_reducible refine HLV.out.mono ?_; rintro e w1 ⟨rfl, H1⟩))
  obtain ⟨r1, hh1⟩ := HH.out w1 H1.out
  have HR1 := toHid2 r1
  have HC1 := toHid2 hh1
  clear r1 hh1
  go_upto_region 4 with (first
    | (refine wpList_load_row rfl 25 _ rfl w.heap.size (by first | rfl | simp [Act.eval]) 25 _ (0, 0) _ HR1.out Tryz.underlying25 rfl HI8.out ?_)
    | (go_at_call 10; with_reducible refine HC1.out.mono ?_; rintro e w2 ⟨ha, hl, hc, rfl, H2⟩))
  have n2 : Nw W0 w2 := H1.out.trans H2.out.1
  have HN2 := toHid2 n2
  go_cut [11, 12] (fun v11 v12 V => v11 = .slice none 0 0 ∧ v12 = .int .i64 eb ∧ Hid (Nw W0 V))
  case first =>
    obtain ⟨gA, cA, WA, hapA, nA, HA⟩ := HE.out w2 (w2.alloc (.cells #[] 5)) n2 (Fr.refl _ _)
    obtain ⟨gB, cB, WB, hapB, nB, HB⟩ := HE.out w2 (w2.alloc (.cells #[] 5)).drew n2 ((Fr.refl _ _).drew)
    obtain ⟨gC, cC, WC, hapC, nC, HC⟩ := HE.out w2.drew (w2.drew.alloc (.cells #[] 5)) n2.drew (Fr.refl _ _)
    obtain ⟨gD, cD, WD, hapD, nD, HD⟩ := HE.out w2.drew (w2.drew.alloc (.cells #[] 5)).drew n2.drew ((Fr.refl _ _).drew)
    clear HE HH HLV HC1 hW0 HF HN0 HER H1 H2 HR1 HI8
    go_region_held3 (fun V => V.cell? ⟨w.heap.size, 0, none⟩ = some (.string m.nm) ∧ V.cell? ⟨w.heap.size, 1, none⟩ = some (.string m.cm) ∧ V.cell? ⟨w.heap.size, 2, none⟩ = some (.slice m.xa X m.xc) ∧ V.cell? ⟨w.heap.size, 3, none⟩ = some (.int .u32 m.tm) ∧ V.cell? ⟨w.heap.size, 4, none⟩ = some (.int .u8 F) ∧ V.cell? ⟨w.heap.size, 5, none⟩ = some (.int .u8 S) ∧ V.cell? ⟨w.heap.size, 6, none⟩ = some (.bool m.tx) ∧ V.cell? ⟨w.heap.size, 7, none⟩ = some (.bool m.sm))
      ((refine HS.out _ ?_; repeat (first | assumption | exact Fr.refl _ _ | refine Fr.alloc ?_ _ | refine Fr.drew ?_)))
      (first
        | (go_at_call 11; with_reducible refine (HA.out _ ?_).mono ?_; (first | exact Fr.refl _ _ | exact (Fr.refl _ _).drew); rintro e w3 ⟨rfl, H3⟩; have n3 : Nw W0 w3 := H3.out)
        | (go_at_call 11; with_reducible refine (HB.out _ ?_).mono ?_; (first | exact Fr.refl _ _ | exact (Fr.refl _ _).drew); rintro e w3 ⟨rfl, H3⟩; have n3 : Nw W0 w3 := H3.out)
        | (go_at_call 11; with_reducible refine (HC.out _ ?_).mono ?_; (first | exact Fr.refl _ _ | exact (Fr.refl _ _).drew); rintro e w3 ⟨rfl, H3⟩; have n3 : Nw W0 w3 := H3.out)
        | (go_at_call 11; with_reducible refine (HD.out _ ?_).mono ?_; (first | exact Fr.refl _ _ | exact (Fr.refl _ _).drew); rintro e w3 ⟨rfl, H3⟩; have n3 : Nw W0 w3 := H3.out))
    go_wp2_with fail
    go_meet
    exact ⟨rfl, rfl, H3⟩
  case rest =>
  obtain ⟨rfl, rfl, HEn⟩ := hcut
  obtain ⟨V, hV⟩ : ∃ z, z = wc := ⟨_, rfl⟩
  subst hV
  have HFV := toHid2 (HF.out V (HN0.out.1.trans HEn.out))
  have hz2 : ((eb : Int) != 0) = true := by simp only [bne_iff_ne, ne_eq]; omega
  clear HE HH HLV HC1 hW0 HF HN0 HER H1 H2 HR1 HI8 HS n2 HN2 HEn
  by_cases hz : er = 0
  · subst hz
    go_wp2_with fail
    exact HFV.out
  · have hz3 : ((er : Int) != 0) = true := by simp only [bne_iff_ne, ne_eq]; omega
    go_wp2_with fail
    exact HFV.out
end
theorem wide (w : World) (a : Option Addr) (c : Nat) (b : List By) (hb : Old w (.slice a b.length c) b) (hb2 : b.length ≤ 140737488351232) (m : Mb) (hx : Old w (.slice m.xa m.ex.length m.xc) m.ex) (h1 : m.nm.size ≤ 140737488351232) (h2 : m.cm.size ≤ 140737488351232) (h3 : m.tm < 4294967296) (f : Int) (tu : Nat) (hT : TabT w) (hI : Tab w) (h0 : 0 < w.heap.size) :
    Calls Tryz.prog 6 #[.slice a b.length c, .agg m.row, .int .i64 f, .int .u32 tu] w fun e w' => e = .returned (.bool true) ∧ Nw w w' := by
  by_cases hbl : b.length ≤ 4194304
  · exact walk w a c b hb hbl m hx h1 h2 h3 f tu hT hI h0
  · exact walk_big w a c b hb (by omega) hb2 m hx h1 h2 h3 f tu hT hI h0
end gzipBurst
end Go.Proofs.YtpjnbhflnbhnoaaGreatDoor
