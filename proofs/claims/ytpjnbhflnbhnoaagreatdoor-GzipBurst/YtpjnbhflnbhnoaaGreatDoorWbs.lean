import Derived.Test.YtpjnbhflnbhnoaaGreatDoorWbr
import Derived.Test.YtpjnbhflnbhnoaaGreatDoorWbq
import Derived.Deep.RegionWith
import Derived.Deep.RegionHeld3
import Derived.Deep.CutBlock
namespace Go.Proofs.YtpjnbhflnbhnoaaGreatDoor
open Go.RowKit
set_option linter.unusedVariables false
/-- A copy of bytes, whatever world the append meets behind the new block. -/
theorem copyV (w V : World) (v : Value) (l : List By) (hx : Sl (fun _ => False) v l w) (hl : l.length ≤ 140737488351232) (hV : Nw (w.alloc (.cells #[] 5)) V) :
    ∃ g c W, (∀ ty, (Builtin.append_ #[22, 22] ty #[.slice (some ⟨w.heap.size, 0, none⟩) 0 0, v]).run Tryz.prog V = .ok (.slice (some ⟨g, 0, none⟩) l.length c) W) ∧ Ow g (.slice (some ⟨g, 0, none⟩) l.length c) l W ∧ Nw w W := by
  have h0 : Nw w (w.alloc (.cells #[] 5)) := (Fr.refl _ _).alloc _
  obtain ⟨v', g, W, hap, hO, hF, hg⟩ := app_any V w.heap.size _ [] ((Ow.empty w).nw hV) v l (hx.nw (h0.trans hV)) (by simp; omega)
  rw [List.nil_append] at hO
  have hO' := hO
  obtain ⟨xs, rfl, _, q1, q2, _⟩ := hO'
  exact ⟨g, xs.length, W, hap, hO, Fr.then (h0.trans hV) hF (fun i hi => .inr (by omega))⟩
/-- What Encode left behind, for GzipBurst. -/
def EnU (m : Mb) (b : List By) (w V : World) (ea : Option Addr) (el ec : Nat) : Prop :=
  Nw w V ∧ (m.err = 0 → ∃ g, ea = some ⟨g, 0, none⟩ ∧ w.heap.size ≤ g ∧ Ow g (.slice ea el ec) (m.whole b) V)
theorem EnU.nw {m : Mb} {b : List By} {w V : World} {ea : Option Addr} {el ec : Nat} (h : EnU m b w V ea el ec) : Nw w V := h.1
/-- The copy and Encode of it. -/
theorem enc_all (w : World) (a : Option Addr) (c : Nat) (b : List By) (hb : Old w (.slice a b.length c) b) (hbl : b.length ≤ 4194304) (m : Mb) (hx : Old w (.slice m.xa m.ex.length m.xc) m.ex) (h1 : m.nm.size ≤ 140737488351232) (h2 : m.cm.size ≤ 140737488351232) (h3 : m.tm < 4294967296) (hT : TabT w) (V V' : World) (hV : Nw w V) (hV' : Nw (V.alloc (.cells #[] 5)) V') :
    ∃ g1 c1 W1, (∀ ty, (Builtin.append_ #[22, 22] ty #[.slice (some ⟨V.heap.size, 0, none⟩) 0 0, .slice a b.length c]).run Tryz.prog V' = .ok (.slice (some ⟨g1, 0, none⟩) b.length c1) W1) ∧ Nw w W1 ∧ Hid (∀ W2, Nw W1 W2 → Calls Tryz.prog 11 #[.slice (some ⟨g1, 0, none⟩) b.length c1, .agg m.row, .int .i64 0] W2 fun e w' => ∃ ea el ec, e = .returned (.tuple #[.slice ea el ec, .int .i64 (m.err : Nat)]) ∧ Hid (EnU m b w w' ea el ec)) := by
  obtain ⟨g1, c1, W1, k1, k2, k3⟩ := copyV V V' _ b ((Sl.later hb hV).mono (fun _ h => h.elim)) (by omega) hV'
  refine ⟨g1, c1, W1, k1, hV.trans k3, fun W2 hW2 => ?_⟩
  have hN : Nw w W2 := hV.trans (k3.trans hW2)
  refine (zencode_stored W2 m (Sl.later hx hN) h1 h2 h3 (hT.nw hN) (some ⟨g1, 0, none⟩) c1 b (k2.nw hW2).old (by omega)).mono ?_
  rintro e w1 ⟨v, rfl, hN1, hno, hok⟩
  by_cases he : m.err = 0
  · obtain ⟨g, hg, hO⟩ := hok he
    obtain ⟨xs, rfl, _⟩ := id hO
    exact ⟨_, _, _, rfl, hN.trans hN1, fun _ => ⟨g, rfl, Nat.le_trans hN.size hg, hO⟩⟩
  · obtain rfl := hno he
    exact ⟨_, _, _, rfl, hN.trans hN1, fun e => absurd e he⟩
/-- append, folded behind a name. -/
def appC (tys : Array TypeId) (ty : TypeId) (args : Array Value) : Sem Value := Builtin.append_ tys ty args
theorem appC_fold (tys : Array TypeId) (ty : TypeId) (args : Array Value) : Builtin.append_ tys ty args = appC tys ty args := rfl
theorem head_10 (m : Mb) : 10 ≤ m.head.length := by
  unfold Mb.head Mb.body
  split <;> simp only [List.length_append, Mb.pre_length] <;> omega
namespace gzipBurst
section
attribute [local go_sem ↓] appC_fold
set_option maxHeartbeats 32000000 in
set_option maxRecDepth 100000 in
theorem walk (w : World) (a : Option Addr) (c : Nat) (b : List By) (hb : Old w (.slice a b.length c) b) (hbl : b.length ≤ 4194304) (m : Mb) (hx : Old w (.slice m.xa m.ex.length m.xc) m.ex) (h1 : m.nm.size ≤ 140737488351232) (h2 : m.cm.size ≤ 140737488351232) (h3 : m.tm < 4294967296) (f : Int) (tu : Nat) (hT : TabT w) (hI : Tab w) (h0 : 0 < w.heap.size) :
    Calls Tryz.prog 6 #[.slice a b.length c, .agg m.row, .int .i64 f, .int .u32 tu] w fun e w' => e = .returned (.bool true) ∧ Nw w w' := by
  obtain ⟨P, hP⟩ : ∃ P : Ending → World → Prop, P = fun e w' => e = .returned (.bool true) ∧ Nw w w' := ⟨_, rfl⟩
  rw [← hP]
  have HF : Hid (∀ V, Nw w V → P (.returned (.bool true)) V) := fun V hV => by rw [hP]; exact ⟨rfl, hV⟩
  obtain ⟨W0, hW0⟩ : ∃ W0, w.alloc (.cells m.row 25) = W0 := ⟨_, rfl⟩
  have row0 : W0.heap[w.heap.size]? = some (.cells m.row 25) := by rw [← hW0]; exact new_heap _ _
  have n0 : Nw w W0 := by rw [← hW0]; exact (Fr.refl _ _).alloc _
  have HLV : Hid (Calls Tryz.prog 26 #[] W0 fun e w' => e = .returned (.bool true) ∧ Hid (Nw W0 w')) := zlives_any W0 (hT.nw n0) (hI.kept n0 (fun e => e)) (Nat.lt_of_lt_of_le h0 n0.size)
  have HMR : Hid (m.row = #[.string m.nm, .string m.cm, .slice m.xa m.ex.length m.xc, .int .u32 m.tm, .int .u8 m.fl.toNat, .int .u8 m.sy.toNat, .bool m.tx, .bool m.sm]) := rfl
  have HH : Hid (∀ V, Nw W0 V → V.heap[w.heap.size]? = some (.cells m.row 25) ∧ Calls Tryz.prog 10 #[.agg m.row] V fun e w1 => ∃ ha hl hc, e = .returned (.tuple #[.slice ha hl hc, .int .i64 (m.err : Nat)]) ∧ Hid (Nw V w1 ∧ (m.err = 0 → hl = m.head.length))) := fun V hV => by
    refine ⟨hV.heap row0, (zhead_any V m (Sl.later hx (n0.trans hV)) h1 h2 h3 (hT.nw (n0.trans hV))).mono ?_⟩
    rintro e w1 ⟨v, rfl, hN1, hno, hok⟩
    by_cases he : m.err = 0
    · obtain ⟨g, hg, hO⟩ := hok he
      obtain ⟨xs, rfl, _⟩ := id hO
      exact ⟨_, _, _, rfl, hN1, fun _ => rfl⟩
    · obtain rfl := hno he
      exact ⟨_, _, _, rfl, hN1, fun e => absurd e he⟩
  have HE : Hid (∀ V V', Nw W0 V → Nw (V.alloc (.cells #[] 5)) V' → ∃ g1 c1 W1, (∀ ty, (appC #[22, 22] ty #[.slice (some ⟨V.heap.size, 0, none⟩) 0 0, .slice a b.length c]).run Tryz.prog V' = .ok (.slice (some ⟨g1, 0, none⟩) b.length c1) W1) ∧ Nw W0 W1 ∧ Hid (∀ W2, Nw W1 W2 → Calls Tryz.prog 11 #[.slice (some ⟨g1, 0, none⟩) b.length c1, .agg m.row, .int .i64 0] W2 fun e w' => ∃ ea el ec, e = .returned (.tuple #[.slice ea el ec, .int .i64 (m.err : Nat)]) ∧ Hid (EnU m b W0 w' ea el ec))) := fun V V' hV hV' => enc_all W0 a c b (Sl.later hb n0) hbl m (Sl.later hx n0) h1 h2 h3 (hT.nw n0) V V' hV hV'
  have HS : Hid (∀ V, Nw W0 V → V.cell? ⟨w.heap.size, 0, none⟩ = some (.string m.nm) ∧ V.cell? ⟨w.heap.size, 1, none⟩ = some (.string m.cm) ∧ V.cell? ⟨w.heap.size, 2, none⟩ = some (.slice m.xa m.ex.length m.xc) ∧ V.cell? ⟨w.heap.size, 3, none⟩ = some (.int .u32 m.tm) ∧ V.cell? ⟨w.heap.size, 4, none⟩ = some (.int .u8 m.fl.toNat) ∧ V.cell? ⟨w.heap.size, 5, none⟩ = some (.int .u8 m.sy.toNat) ∧ V.cell? ⟨w.heap.size, 6, none⟩ = some (.bool m.tx) ∧ V.cell? ⟨w.heap.size, 7, none⟩ = some (.bool m.sm)) := fun V hV => by
    have row1 := hV.heap row0
    exact ⟨(row_cell row1 0 _ rfl).1, (row_cell row1 1 _ rfl).1, (row_cell row1 2 _ rfl).1, (row_cell row1 3 _ rfl).1, (row_cell row1 4 _ rfl).1, (row_cell row1 5 _ rfl).1, (row_cell row1 6 _ rfl).1, (row_cell row1 7 _ rfl).1⟩
  have HN0 := toHid2 (And.intro n0 (And.intro hT (And.intro hI (And.intro h0 (And.intro h3 hbl)))))
  obtain ⟨er, her⟩ : ∃ er, m.err = er := ⟨_, rfl⟩
  obtain ⟨N, hN⟩ : ∃ N, b.length = N := ⟨_, rfl⟩
  have HER : Hid (m.err = er ∧ b.length = N) := ⟨her, hN⟩
  rw [HMR.out] at hW0 HH HE ⊢
  rw [her] at HH HE
  rw [hN] at HE hbl ⊢
  clear hP hT hx row0 n0 HMR hb hI h0 her hN
  generalize m.ex.length = X at *
  generalize m.fl.toNat = F at *
  generalize m.sy.toNat = S at *
  have HI8 : Hid ((Tryz.prog.info? 25).map (·.size) = some (#[Value.string m.nm, .string m.cm, .slice m.xa X m.xc, .int .u32 m.tm, .int .u8 F, .int .u8 S, .bool m.tx, .bool m.sm] : Array Value).size) := by show _ = _; kernel_rfl
  go_enter Tryz.func6, Tryz.ntmps6
  go_upto_region 3 with (first | (go_at_call 26; with_reducible refine HLV.out.mono ?_; rintro e w1 ⟨rfl, H1⟩))
  obtain ⟨r1, hh1⟩ := HH.out w1 H1.out
  have HR1 := toHid2 r1
  have HC1 := toHid2 hh1
  clear r1 hh1
  go_upto_region 4 with (first
    | (refine wpList_load_row rfl 25 _ rfl w.heap.size (by first | rfl | simp [Act.eval]) 25 _ (0, 0) _ HR1.out Tryz.underlying25 rfl HI8.out ?_)
    | (go_at_call 10; with_reducible refine HC1.out.mono ?_; rintro e w2 ⟨ha, hl, hc, rfl, H2⟩))
  have n2 : Nw W0 w2 := H1.out.trans H2.out.1
  have HN2 := toHid2 n2
  go_cut [11, 12] (fun v11 v12 V => ∃ ea el ec, v11 = .slice ea el ec ∧ v12 = .int .i64 er ∧ Hid (EnU m b W0 V ea el ec))
  case first =>
    obtain ⟨gA, cA, WA, hapA, nA, HA⟩ := HE.out w2 (w2.alloc (.cells #[] 5)) n2 (Fr.refl _ _)
    obtain ⟨gB, cB, WB, hapB, nB, HB⟩ := HE.out w2 (w2.alloc (.cells #[] 5)).drew n2 ((Fr.refl _ _).drew)
    obtain ⟨gC, cC, WC, hapC, nC, HC⟩ := HE.out w2.drew (w2.drew.alloc (.cells #[] 5)) n2.drew (Fr.refl _ _)
    obtain ⟨gD, cD, WD, hapD, nD, HD⟩ := HE.out w2.drew (w2.drew.alloc (.cells #[] 5)).drew n2.drew ((Fr.refl _ _).drew)
    clear HE HH HLV HC1 hW0 HF HN0 HER H1 H2 HR1 HI8
    go_region_held3 (fun V => V.cell? ⟨w.heap.size, 0, none⟩ = some (.string m.nm) ∧ V.cell? ⟨w.heap.size, 1, none⟩ = some (.string m.cm) ∧ V.cell? ⟨w.heap.size, 2, none⟩ = some (.slice m.xa X m.xc) ∧ V.cell? ⟨w.heap.size, 3, none⟩ = some (.int .u32 m.tm) ∧ V.cell? ⟨w.heap.size, 4, none⟩ = some (.int .u8 F) ∧ V.cell? ⟨w.heap.size, 5, none⟩ = some (.int .u8 S) ∧ V.cell? ⟨w.heap.size, 6, none⟩ = some (.bool m.tx) ∧ V.cell? ⟨w.heap.size, 7, none⟩ = some (.bool m.sm))
      ((refine HS.out _ ?_; repeat (first | assumption | exact Fr.refl _ _ | refine Fr.alloc ?_ _ | refine Fr.drew ?_)))
      (first
        | (go_at_call 11; with_reducible refine (HA.out _ ?_).mono ?_; (first | exact Fr.refl _ _ | exact (Fr.refl _ _).drew); rintro e w3 ⟨ea, el, ec, rfl, H3⟩; have n3 : Nw W0 w3 := EnU.nw H3.out)
        | (go_at_call 11; with_reducible refine (HB.out _ ?_).mono ?_; (first | exact Fr.refl _ _ | exact (Fr.refl _ _).drew); rintro e w3 ⟨ea, el, ec, rfl, H3⟩; have n3 : Nw W0 w3 := EnU.nw H3.out)
        | (go_at_call 11; with_reducible refine (HC.out _ ?_).mono ?_; (first | exact Fr.refl _ _ | exact (Fr.refl _ _).drew); rintro e w3 ⟨ea, el, ec, rfl, H3⟩; have n3 : Nw W0 w3 := EnU.nw H3.out)
        | (go_at_call 11; with_reducible refine (HD.out _ ?_).mono ?_; (first | exact Fr.refl _ _ | exact (Fr.refl _ _).drew); rintro e w3 ⟨ea, el, ec, rfl, H3⟩; have n3 : Nw W0 w3 := EnU.nw H3.out))
    go_wp2_with fail
    go_meet
    exact ⟨ea, el, ec, rfl, rfl, H3⟩
  case rest =>
  obtain ⟨ea, el, ec, rfl, rfl, HEn⟩ := hcut
  obtain ⟨V, hV⟩ : ∃ z, z = wc := ⟨_, rfl⟩
  subst hV
  have HFV := toHid2 (HF.out V (HN0.out.1.trans (EnU.nw HEn.out)))
  by_cases hz : er = 0
  · subst hz
    by_cases hf : f < 0
    · clear HE HH HLV HC1 hW0 HF HN0 HER H1 H2 HR1 HI8 HS n2 HN2 HEn
      have d1 : decide (f < 0) = true := decide_eq_true hf
      go_wp2_with fail
      exact HFV.out
    · have d1 : decide (f < 0) = false := decide_eq_false hf
      obtain ⟨he, hN⟩ := HER.out
      obtain ⟨g, e1, hg, hO⟩ := HEn.out.2 he
      subst e1
      have hhl := H2.out.2 rfl
      obtain ⟨xs, e2, _, _, _, _⟩ := id hO
      injection e2 with _ e2 e3
      have hwl : (m.whole b).length = ebk m.head.length b.length + 8 := by rw [← eX_whole, emb_length _ _ _ (eX_length b)]
      have hhead := m.head_le he
      have hel : el = ebk hl N + 8 := by rw [e2, hwl, hN, hhl]
      have hsN := stN_lo N
      have hel2 : el ≤ 5000000 := by rw [hel]; unfold ebk; omega
      obtain ⟨F0, rfl⟩ : ∃ F0 : Nat, f = (F0 : Int) := ⟨f.toNat, by omega⟩
      have hO2 : Ow g (.slice (some ⟨g, 0, none⟩) el ec) (emb m.head N (eX b)) V := by rw [← hN, eX_whole]; exact hO
      have hel8 : 23 ≤ el := by rw [hel]; unfold ebk; have := head_10 m; omega
      obtain ⟨fr, hfr⟩ : ∃ fr, F0 % (8 * el) = fr := ⟨_, rfl⟩
      have hfr2 : fr < 8 * el := by rw [← hfr]; exact Nat.mod_lt _ (by omega)
      have hrem : (F0 : Int).tmod (8 * (el : Int)) = (fr : Int) := by
        rw [← hfr]; push_cast; exact Int.tmod_eq_emod_of_nonneg (by omega)
      have HST : Hid (BI hl N fr (eX b) 0 (eX b) 0) := by rw [← hN]; exact BI.start _ _ _ _ (eX_length b)
      have HNV := toHid2 (EnU.nw HEn.out)
      have HOV := toHid2 hO2
      have HEE : Hid (m.err = 0 ∧ b.length = N ∧ hl = m.head.length ∧ el = ebk hl N + 8 ∧ W0.heap.size ≤ g) := ⟨he, hN, hhl, hel, hg⟩
      clear HE HH HLV HC1 hW0 HER H1 H2 HR1 HI8 HS n2 HN2 HEn he hN hg hO hhl e2 e3 hwl hhead hel hsN hO2 hfr HFV
      go_wp2_with fail
      go_loopg [13, 14] 32 (fun kx v13 v14 wr => ∃ (i : Nat) (an : Bool), i ≤ 32 ∧ 32 ≤ i + kx ∧ v13 = .bool an ∧ v14 = .int .i64 i ∧ Hid (∃ X W, BI hl N fr (eX b) i X W ∧ an = decide (W ≠ 0) ∧ Ow g (.slice (some ⟨g, 0, none⟩) el ec) (emb m.head N X) wr ∧ Nw W0 wr))
      case atStart => exact ⟨0, false, by omega, by omega, rfl, rfl, eX b, 0, HST.out, rfl, HOV.out, HNV.out⟩
      case round =>
        obtain ⟨i, an, hi, hkx, rfl, rfl, HR⟩ := hrel
        obtain ⟨X', W, hB, han, hOr, hNr⟩ := HR.out
        obtain ⟨he, hN, hhl, hel, hg⟩ := HEE.out
        have hlen := emb_length m.head N X' hB.len
        have hlen2 : (emb m.head N X').length = el := by rw [hlen, ← hhl, hel]
        by_cases hi32 : i < 32
        · obtain ⟨KI, hKI⟩ : ∃ KI, fr + i = KI := ⟨_, rfl⟩
          obtain ⟨K8, hK8⟩ : ∃ K8, KI / 8 = K8 := ⟨_, rfl⟩
          obtain ⟨J, hJ⟩ : ∃ J, KI % 8 = J := ⟨_, rfl⟩
          have z1 : (i : Int) < 32 := by omega
          have z2 : (fr : Int) + (i : Int) = (KI : Int) := by omega
          have z3 : (KI : Int) / 8 = (K8 : Int) := by omega
          have z4 : (KI : Int) % 8 = (J : Int) := by omega
          have hKB : KI < 40000032 := by omega
          have HSK : Hid (∀ V, Nw wr V → ∃ X W, BI hl N fr (eX b) (i + 1) X W ∧ an = decide (W ≠ 0) ∧ Ow g (.slice (some ⟨g, 0, none⟩) el ec) (emb m.head N X) V ∧ Nw W0 V) := fun V hV => ⟨X', W, hB.skip, han, hOr.nw hV, hNr.trans hV⟩
          have HKX := toHid2 hkx
          by_cases hk : KI < 8 * el
          · have hKe : K8 < el := by omega
            have HPL : Hid (Calls Tryz.prog 27 #[.slice (some ⟨g, 0, none⟩) el ec, .int .i64 hl, .int .i64 K8] wr fun e w' => e = .returned (.bool (decide (pz hl N K8))) ∧ Hid (Nw wr w')) := lplainly_any wr _ el ec m.head X' N hB.len hOr.old (by rw [← hhl, hel]) (by omega) hl hhl.symm K8 hKe
            by_cases hp : pz hl N K8
            · rw [decide_eq_true hp] at HPL
              have hgl : K8 < (emb m.head N X').length := by omega
              obtain ⟨x, hxx⟩ : ∃ x, (emb m.head N X')[K8] = x := ⟨_, rfl⟩
              have hJ8 : J < 8 := by omega
              obtain ⟨zb, hzb⟩ : ∃ zb, zb = x ^^^ BitVec.ofNat 8 (2 ^ J) := ⟨_, rfl⟩
              have hxor : bits BinOp.xor IntKind.u8 (x.toNat : Int) ((2 : Int) ^ J % 256) = (zb.toNat : Int) := by
                obtain ⟨q, hq⟩ : ∃ q, q = 2 ^ J := ⟨_, rfl⟩
                have q2 : q < 256 := by rw [hq]; exact Nat.lt_of_lt_of_le (Nat.pow_lt_pow_right (a := 2) (by decide) hJ8) (by decide)
                have q4 : (2 : Int) ^ J = (q : Int) := by rw [hq]; push_cast; rfl
                have q3 : ((2 : Int) ^ J % 256) = (q : Int) := by rw [q4]; clear hq q4; omega
                rw [q3, u8_xor_nat _ _ x.isLt q2, hzb, BitVec.toNat_xor, BitVec.toNat_ofNat, ← hq, Nat.mod_eq_of_lt q2]
              have HCC : Hid (∀ V, Nw wr V → V.cell? ⟨g, K8, none⟩ = some (.int .u8 x.toNat) ∧ V.frozen? ⟨g, K8, none⟩ = false) := fun V hV => by
                have := (hOr.nw hV).at K8 hgl
                rw [hxx] at this
                exact this
              have HPUT : Hid (∀ V V2, Nw (V.setCell ⟨g, K8, none⟩ (.int .u8 (zb.toNat : Int))) V2 → Nw wr V → ∃ X W, BI hl N fr (eX b) (i + 1) X W ∧ true = decide (W ≠ 0) ∧ Ow g (.slice (some ⟨g, 0, none⟩) el ec) (emb m.head N X) V2 ∧ Nw W0 V2) := fun V V2 h2 hV => by
                have hp2 : pz hl N ((fr + i) / 8) := by rw [hKI, hK8]; exact hp
                have ht2 : (fr + i) / 8 < ebk hl N + 8 := by rw [hKI, hK8, ← hel]; exact hKe
                have hsl := sft_le hp2 ht2
                have hj : (fr + i) / 8 - sft hl N ((fr + i) / 8) < X'.length := by rw [hB.len]; exact hsl.2.1
                obtain ⟨t1, t2⟩ := hB.turn hi32 hp2 ht2 hj
                refine ⟨_, _, t1, (decide_eq_true t2).symm, ?_, ?_⟩
                · have hs := emb_set (hd := m.head) hB.len (t := K8) (by rw [← hhl]; exact hp) (by rw [← hhl, ← hel]; exact hKe) zb
                  have hgt := emb_get (hd := m.head) hB.len (t := K8) (by rw [← hhl]; exact hp) (by rw [← hhl, ← hel]; exact hKe)
                  rw [← hhl] at hs hgt
                  rw [List.getElem?_eq_getElem hgl, hxx] at hgt
                  have hidx : (fr + i) / 8 - sft hl N ((fr + i) / 8) = K8 - sft hl N K8 := by rw [hKI, hK8]
                  have hxe : X'[(fr + i) / 8 - sft hl N ((fr + i) / 8)] ^^^ BitVec.ofNat 8 (2 ^ ((fr + i) % 8)) = zb := by
                    have e9 : X'[(fr + i) / 8 - sft hl N ((fr + i) / 8)]? = some x := by rw [hidx]; exact hgt.symm
                    rw [List.getElem?_eq_getElem hj] at e9
                    injection e9 with e9
                    rw [e9, hzb, hKI, hJ]
                  rw [hxe, hidx, hs]
                  exact ((hOr.nw hV).put K8 hgl zb _ rfl).nw h2
                · exact ((hNr.trans hV).setCell ⟨g, K8, none⟩ _ (.inr hg)).trans h2
              clear HF HST HNV HOV HR HEE hB han hOr hNr he hN hhl hel hg hlen hlen2 hKI hK8 hJ hgl hxx hzb hp hkx
              have z5 : (K8 : Int) < (el : Int) := by omega
              have z6 : (KI : Int) < 8 * (el : Int) := by omega
              go_wp2_with (first | (go_at_call 27; with_reducible refine HPL.out.mono ?_; rintro e w5 ⟨rfl, H5⟩))
              all_goals first
                | (go_roundg (32 - (i + 1))
                   all_goals first
                     | (have h9 := HKX.out; omega)
                     | exact ⟨i + 1, an, by omega, by omega, rfl, by simp, HSK.out _ (Fr.refl _ _)⟩
                     | exact ⟨i + 1, an, by omega, by omega, rfl, by simp, HSK.out _ H5.out⟩)
                | skip
              obtain ⟨c5, f5⟩ := HCC.out w5 H5.out
              go_region
              all_goals go_wp2_with fail
              all_goals go_roundg (32 - (i + 1))
              all_goals first
                | (have h9 := HKX.out; omega)
                | exact ⟨i + 1, true, by omega, by omega, rfl, by simp, HPUT.out w5 _ ((Fr.refl _ _).drew) H5.out⟩
            · rw [decide_eq_false hp] at HPL
              clear HF HST HNV HOV HR HEE hB han hOr hNr he hN hhl hel hg hlen hlen2 hKI hK8 hJ hp hkx
              go_wp2_with (first | (go_at_call 27; with_reducible refine HPL.out.mono ?_; rintro e w5 ⟨rfl, H5⟩))
              all_goals go_roundg (32 - (i + 1))
              all_goals first
                | (have h9 := HKX.out; omega)
                | exact ⟨i + 1, an, by omega, by omega, rfl, by simp, HSK.out _ (Fr.refl _ _)⟩
                | exact ⟨i + 1, an, by omega, by omega, rfl, by simp, HSK.out _ H5.out⟩
          · clear HF HST HNV HOV HR HEE hB han hOr hNr he hN hhl hel hg hlen hlen2 hKI hK8 hJ hkx
            have z6 : ¬ (KI : Int) < 8 * (el : Int) := by omega
            have z7 : 8 * (el : Int) ≤ (KI : Int) := by omega
            go_wp2_with fail
            all_goals go_roundg (32 - (i + 1))
            all_goals first
              | (have h9 := HKX.out; omega)
              | exact ⟨i + 1, an, by omega, by omega, rfl, by simp, HSK.out _ (Fr.refl _ _)⟩
        · obtain rfl : i = 32 := by omega
          have HDC : Hid (Calls Tryz.prog 20 #[.slice (some ⟨g, 0, none⟩) el ec, .int .i64 4194304] wr fun e w1 => ∃ pa pl pc ma ml mc E, e = .returned (.tuple #[.slice pa pl pc, .slice ma ml mc, .int .i64 (E : Nat)]) ∧ ((E : Int) == 0) = !an ∧ Hid (P (.returned (.bool true)) w1)) := by
            obtain ⟨n0, hT, hI, h0, h3, hbl⟩ := HN0.out
            show Calls _ _ _ _ _
            have nw := n0.trans hNr
            refine (zdec_all w wr g ec el (emb m.head N X') hOr hlen2 (by omega) nw hT hI h0).mono ?_
            rintro e w1 ⟨pa, pl, pc, ma, ml, mc, E, rfl, _, _, HD⟩
            refine ⟨pa, pl, pc, ma, ml, mc, E, rfl, ?_, HF.out _ (nw.trans HD.out.1)⟩
            subst hN
            have hfin := hB.fin (by omega)
            have hdec := emb_dec m he h3 b.length X' hB.len (by omega)
            rw [han]
            rcases HD.out.2 with ⟨q1, q2⟩ | ⟨q1, O, M, B, og, xs, q2, _⟩
            · have hW : W ≠ 0 := fun hw => by
                have e1 := hfin.1 hw
                rw [e1] at hdec
                rw [eX_chk b (by omega), if_pos rfl] at hdec
                rw [e1, hdec] at q2
                cases q2
              rw [decide_eq_true hW]
              show ((E : Int) == 0) = false
              rw [beq_eq_false_iff_ne]
              omega
            · have hW : ¬ W ≠ 0 := fun hw => by
                rw [if_neg (hfin.2 hw)] at hdec
                rw [hdec] at q2
                cases q2
              rw [decide_eq_false hW, q1]
              rfl
          clear HF HST HNV HOV HR HEE hB han hOr hNr he hN hhl hel hg hlen hlen2 hkx HN0
          cases an with
          | true =>
            go_wp2_with (first | (go_at_call 20; with_reducible refine HDC.out.mono ?_; rintro e w5 ⟨pa, pl, pc, ma, ml, mc, E, rfl, d9, H5⟩))
            exact H5.out
          | false =>
            go_wp2_with (first | (go_at_call 20; with_reducible refine HDC.out.mono ?_; rintro e w5 ⟨pa, pl, pc, ma, ml, mc, E, rfl, d9, H5⟩))
            exact H5.out
  · clear HE HH HLV HC1 hW0 HF HN0 HER H1 H2 HR1 HI8 HS n2 HN2 HEn
    have hz2 : ((er : Int) != 0) = true := by simp only [bne_iff_ne, ne_eq]; omega
    go_wp2_with fail
    exact HFV.out
end
end gzipBurst
end Go.Proofs.YtpjnbhflnbhnoaaGreatDoor
