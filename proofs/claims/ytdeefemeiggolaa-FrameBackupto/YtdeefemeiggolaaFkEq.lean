import Derived.Test.YtdeefemeiggolaaFkDq
import Derived.Test.YtdeefemeiggolaaQy
import Derived.Test.YtdeefemeiggolaaRa
namespace Go.Proofs.Ytdeefemeiggolaa
open Go.RowKit
set_option linter.unusedVariables false
/-! ### FrameBack's walk -/
def PC (g o i : Nat) (ba : Option Addr) (bl bc : Nat) (t : Prt) (V : World) : Prop := V.cell? ⟨g, o + i * 8, none⟩ = some (.bool t.skip) ∧ V.cell? ⟨g, o + i * 8 + 1, none⟩ = some (.int .i64 t.user) ∧ V.cell? ⟨g, o + i * 8 + 2, none⟩ = some (.slice ba bl bc) ∧ V.cell? ⟨g, o + i * 8 + 3, none⟩ = some (.int .i64 t.k) ∧ V.cell? ⟨g, o + i * 8 + 4, none⟩ = some (.bool t.b1) ∧ V.cell? ⟨g, o + i * 8 + 5, none⟩ = some (.bool t.b2) ∧ V.cell? ⟨g, o + i * 8 + 6, none⟩ = some (.bool t.b3) ∧ V.cell? ⟨g, o + i * 8 + 7, none⟩ = some (.bool t.b4)
/-- What Encode answers to what came in. -/
theorem bk_enc (V : World) (ba : Option Addr) (bc : Nat) (t : Prt) (hO : Old V (.slice ba t.b.length bc) t.b) (hl : t.b.length ≤ 4194304) : Calls Try.prog 10 #[.slice ba t.b.length bc, .agg #[.int .i64 t.k, .bool t.b1, .bool t.b2, .bool t.b3, .bool t.b4]] V fun e w2 => ∃ a2 l2 k2 y, e = .returned (.tuple #[.slice a2 l2 k2, .int .i64 y]) ∧ Nw V w2 ∧ ((¬ (4 ≤ t.k ∧ t.k ≤ 7) ∧ y = 1) ∨ (y = 0 ∧ ∃ (kn : Nat) (bf : List By), t.k = kn ∧ 4 ≤ kn ∧ kn ≤ 7 ∧ EncB ⟨kn, t.b1, t.b2, t.b3, t.b4⟩ t.b 0 bf ∧ l2 = (frameB ⟨kn, t.b1, t.b2, t.b3, t.b4⟩ t.b bf).length ∧ Old w2 (.slice a2 l2 k2) (frameB ⟨kn, t.b1, t.b2, t.b3, t.b4⟩ t.b bf))) := by
  by_cases hk : t.k < 4 ∨ 7 < t.k
  · refine (fEncode_arg V _ t.k t.b1 t.b2 t.b3 t.b4 hk).mono ?_
    rintro e w2 ⟨rfl, hN⟩
    exact ⟨_, _, _, _, rfl, hN, .inl ⟨by omega, rfl⟩⟩
  · obtain ⟨kn, hkn⟩ : ∃ kn : Nat, t.k = kn := ⟨t.k.toNat, by omega⟩
    rw [hkn]
    refine (fEncode_ok V _ t.b hO ⟨kn, t.b1, t.b2, t.b3, t.b4⟩ (by show 4 ≤ kn; omega) (by show kn ≤ 7; omega) hl).mono ?_
    rintro e w2 ⟨a2, k2, bf, rfl, h1, h2, h3⟩
    exact ⟨a2, _, k2, 0, rfl, h3, .inr ⟨rfl, kn, bf, rfl, by omega, by omega, h1, rfl, h2.old⟩⟩
theorem bk_skip (V : World) (ba : Option Addr) (bc : Nat) (t : Prt) (hO : Old V (.slice ba t.b.length bc) t.b) (hl : t.b.length ≤ 4194304) : Calls Try.prog 12 #[.int .i64 t.user, .slice ba t.b.length bc] V fun e w2 => ∃ a2 l2 k2 y, e = .returned (.tuple #[.slice a2 l2 k2, .int .i64 y]) ∧ Nw V w2 ∧ ((¬ (0 ≤ t.user ∧ t.user ≤ 15) ∧ y = 1) ∨ (y = 0 ∧ ∃ u : Nat, t.user = u ∧ u ≤ 15 ∧ l2 = (skipB u t.b).length ∧ Old w2 (.slice a2 l2 k2) (skipB u t.b))) := by
  by_cases hk : t.user < 0 ∨ 15 < t.user
  · refine (fSkip_arg V _ t.user hk).mono ?_
    rintro e w2 ⟨rfl, rfl⟩
    exact ⟨_, _, _, _, rfl, Fr.refl _ _, .inl ⟨by omega, rfl⟩⟩
  · obtain ⟨u, hu⟩ : ∃ u : Nat, t.user = u := ⟨t.user.toNat, by omega⟩
    rw [hu]
    refine (fSkip_ok V _ t.b hO u (by omega) hl).mono ?_
    rintro e w2 ⟨a2, k2, rfl, h2, h3⟩
    exact ⟨a2, _, k2, 0, rfl, h3, .inr ⟨rfl, u, rfl, by omega, rfl, h2.old⟩⟩
set_option maxHeartbeats 40000000 in
set_option maxRecDepth 100000 in
theorem bk_walk (w : World) (a : Option Addr) (N c : Nat) (l : List Prt) (hN : l.length = N) (hl : OldP w (.slice a N c) l) (hwl : wgt l ≤ 1048576) :
    Calls Try.prog 5 #[.slice a N c] w fun e w' => e = .returned (.bool true) ∧ Nw w w' := by
  obtain ⟨P, hP⟩ : ∃ P : Ending → World → Prop, P = fun e w' => e = .returned (.bool true) ∧ Nw w w' := ⟨_, rfl⟩
  rw [← hP]
  have HT : Hid (∀ V, Nw w V → P (.returned (.bool true)) V) := fun V hV => by rw [hP]; exact ⟨rfl, hV⟩
  have HLV : Hid (Calls Try.prog 21 #[] w fun e w1 => e = .returned (.bool true) ∧ Hid (BkI w l 0 (.slice none 0 0) [] (.slice none 0 0) [] 0 w1)) := by
    show Calls _ _ _ _ _
    refine (lives_any w).mono ?_
    rintro e w1 ⟨rfl, hN1⟩
    exact ⟨rfl, Tw.start _ _, RB.start, by simp, by simp, by omega, hN1⟩
  have HPT : Hid (∀ i t, l[i]? = some t → ∃ g o, a = some ⟨g, o, none⟩ ∧ ∃ ba bc, w.cell? ⟨g, o + i * 8, none⟩ = some (.bool t.skip) ∧ w.cell? ⟨g, o + i * 8 + 1, none⟩ = some (.int .i64 t.user) ∧ w.cell? ⟨g, o + i * 8 + 2, none⟩ = some (.slice ba t.b.length bc) ∧ w.cell? ⟨g, o + i * 8 + 3, none⟩ = some (.int .i64 t.k) ∧ w.cell? ⟨g, o + i * 8 + 4, none⟩ = some (.bool t.b1) ∧ w.cell? ⟨g, o + i * 8 + 5, none⟩ = some (.bool t.b2) ∧ w.cell? ⟨g, o + i * 8 + 6, none⟩ = some (.bool t.b3) ∧ w.cell? ⟨g, o + i * 8 + 7, none⟩ = some (.bool t.b4) ∧ Old w (.slice ba t.b.length bc) t.b) := fun i t ht => by
    obtain ⟨a0, c0, e0, _, _, hop⟩ := hl
    injection e0 with e1
    obtain ⟨g, o, h1, _, h3⟩ := hop (by rintro rfl; simp at ht)
    exact ⟨g, o, e1.trans h1, h3 i t ht⟩
  have HNl : Hid (l.length = N) := hN
  have hNb : N ≤ 1048576 := by have := wgt_len l; omega
  clear hP hl hN
  go_enter Try.func5, Try.ntmps5
  go_wp2_with (first | (go_at_call 21; (with_reducible refine HLV.out.mono ?_); rintro e w1 ⟨rfl, H1⟩))
  clear HLV
  go_loopg [3, 4, 5, 6] N (fun kx vall vpl vn vi wr => ∃ (i n : Nat) (all plain : List By) (a3 : Option Addr) (l3 k3 : Nat) (a4 : Option Addr) (l4 k4 : Nat), i ≤ N ∧ N - i ≤ kx ∧ vi = .int .i64 i ∧ vn = .int .i64 n ∧ vall = .slice a3 l3 k3 ∧ vpl = .slice a4 l4 k4 ∧ Hid (l3 = all.length ∧ l4 = plain.length ∧ BkI w l i (.slice a3 l3 k3) all (.slice a4 l4 k4) plain n wr))
  case atStart => exact ⟨0, 0, [], [], none, 0, 0, none, 0, 0, by omega, by omega, rfl, rfl, rfl, rfl, rfl, rfl, H1.out⟩
  case round =>
    obtain ⟨i, n, all, plain, a3, l3, k3, a4, l4, k4, hi, hkx, rfl, rfl, rfl, rfl, HI⟩ := hrel
    clear H1
    have hni : n ≤ 1048576 := by have := HI.out.2.2.2.2.2.2.1; omega
    by_cases hlt : i < N
    · have hz : (i : Int) < (N : Int) := by omega
      obtain ⟨t, ht⟩ : ∃ t, l[i]? = some t := ⟨_, List.getElem?_eq_getElem (by rw [HNl.out]; exact hlt)⟩
      obtain ⟨g, o, rfl, ba, bc, p0, p1, p2, p3, p4, p5, p6, p7, hold⟩ := HPT.out i t ht
      have hwt := wgt_take l i t ht
      have hw1 := wgt_le l (i + 1)
      obtain ⟨bl, hbl⟩ : ∃ bl, t.b.length = bl := ⟨_, rfl⟩
      rw [hbl] at p2
      have hblb : bl ≤ 1048576 := by omega
      have KEY : Hid (∀ V, Nw w V → PC g o i ba bl bc t V) := fun V hV => ⟨hV.cell p0, hV.cell p1, hV.cell p2, hV.cell p3, hV.cell p4, hV.cell p5, hV.cell p6, hV.cell p7⟩
      have hNw : Nw w wr := HI.out.2.2.2.2.2.2.2
      have hpl : l4 ≤ 1048576 := by have := HI.out.2.2.2.2.2.1; have := HI.out.2.1; have := wgt_le l i; omega
      have hpl2 : l4 + bl ≤ 1048576 := by have := HI.out.2.2.2.2.2.1; have := HI.out.2.1; omega
      have hall : l3 ≤ 200000000 := by have := HI.out.2.2.2.2.1; have := HI.out.1; have := wgt_le l i; omega
      obtain ⟨g1, c9, W1, hap, hO1, _, hN1⟩ := copyB wr.drew (.slice ba bl bc) t.b (by rw [← hbl]; exact Sl.later hold hNw.drew) (by omega)
      rw [hbl] at hap hO1
      have q14 : wr.drew.heap.size = wr.heap.size := rfl
      rw [q14] at hap
      have HAP : Hid (∀ ty, (Builtin.append_ #[22, 22] ty #[.slice (some ⟨wr.heap.size, 0, none⟩) 0 0, .slice ba bl bc]).run Try.prog (wr.drew.alloc (.cells #[] 5)) = .ok (.slice (some ⟨g1, 0, none⟩) bl c9) W1) := hap
      have hNW1 : Nw wr W1 := ((Fr.refl _ wr).drew).trans hN1
      have HSAME : Hid (∀ V, Nw wr V → BkI w l (i + 1) (.slice a3 l3 k3) all (.slice a4 l4 k4) plain n V) := fun V hV => HI.out.2.2.same ht hV
      obtain ⟨c0, c1, c2, c3, c4, c5, c6, c7⟩ := KEY.out wr hNw
      have hd0 := KEY.out _ hNw.drew
      have hd1 := KEY.out _ (hNw.drew.alloc (.cells #[] 5))
      have hd2 := KEY.out _ (hNw.trans hNW1)
      unfold PC at hd0 hd1 hd2
      obtain ⟨d00, d01, d02, d03, d04, d05, d06, d07⟩ := hd0
      obtain ⟨d10, d11, d12, d13, d14, d15, d16, d17⟩ := hd1
      obtain ⟨d20, d21, d22, d23, d24, d25, d26, d27⟩ := hd2
      have hzb : ¬ (4194304 : Int) < (bl : Int) := by omega
      have hzb2 : (bl : Int) ≤ 4194304 := by omega
      have hsk : t.skip = true ∨ t.skip = false := by cases t.skip <;> simp
      rcases hsk with hsk | hsk
      · rw [hsk] at c0
        have S0 : wr.cell? ⟨g, o + i * 8 + 1, none⟩ = some (.int .i64 t.user) ∧ wr.cell? ⟨g, o + i * 8 + 2, none⟩ = some (.slice ba bl bc) := ⟨c1, c2⟩
        have S1 : wr.drew.cell? ⟨g, o + i * 8 + 1, none⟩ = some (.int .i64 t.user) ∧ wr.drew.cell? ⟨g, o + i * 8 + 2, none⟩ = some (.slice ba bl bc) := ⟨d01, d02⟩
        have S2 : (wr.drew.alloc (.cells #[] 5)).cell? ⟨g, o + i * 8 + 1, none⟩ = some (.int .i64 t.user) ∧ (wr.drew.alloc (.cells #[] 5)).cell? ⟨g, o + i * 8 + 2, none⟩ = some (.slice ba bl bc) := ⟨d11, d12⟩
        have S3 : W1.cell? ⟨g, o + i * 8 + 1, none⟩ = some (.int .i64 t.user) ∧ W1.cell? ⟨g, o + i * 8 + 2, none⟩ = some (.slice ba bl bc) := ⟨d21, d22⟩
        have HC : Hid (Calls Try.prog 12 #[.int .i64 t.user, .slice (some ⟨g1, 0, none⟩) bl c9] W1 fun e w2 => ∃ a2 l2 k2 y, e = .returned (.tuple #[.slice a2 l2 k2, .int .i64 y]) ∧ (w2.cell? ⟨g, o + i * 8 + 1, none⟩ = some (.int .i64 t.user) ∧ w2.cell? ⟨g, o + i * 8 + 2, none⟩ = some (.slice ba bl bc)) ∧ Hid (PC g o i ba bl bc t w2 ∧ Nw wr w2 ∧ ((¬ (0 ≤ t.user ∧ t.user ≤ 15) ∧ y = 1) ∨ (y = 0 ∧ ∃ u : Nat, t.user = u ∧ u ≤ 15 ∧ l2 = (skipB u t.b).length ∧ Old w2 (.slice a2 l2 k2) (skipB u t.b))))) := by
          show Calls _ _ _ _ _
          have hcc := bk_skip W1 (some ⟨g1, 0, none⟩) c9 t (by rw [hbl]; exact hO1.old) (by omega)
          rw [hbl] at hcc
          refine hcc.mono ?_
          rintro e w2 ⟨a2, l2, k2, y, h1, h2, h3⟩
          have hk := KEY.out w2 (hNw.trans (hNW1.trans h2))
          exact ⟨a2, l2, k2, y, h1, ⟨hk.2.1, hk.2.2.1⟩, hk, hNW1.trans h2, h3⟩
        clear p0 p1 p2 p3 p4 p5 p6 p7 hold hap hO1 hN1 hNW1 d00 d01 d02 d03 d04 d05 d06 d07 d10 d11 d12 d13 d14 d15 d16 d17 d20 d21 d22 d23 d24 d25 d26 d27 hwt hw1 q14
        have HSK : Hid (t.skip = true) := hsk
        clear hsk
        go_upto_region 11 with fail
        clear c0 c1 c2 c3 c4 c5 c6 c7
        go_region_held3 (fun w' => w'.cell? ⟨g, o + i * 8 + 1, none⟩ = some (.int .i64 t.user) ∧ w'.cell? ⟨g, o + i * 8 + 2, none⟩ = some (.slice ba bl bc))
          (first | assumption)
          (first
            | (refine step_append_run rfl _ _ rfl (.slice (some ⟨wr.heap.size, 0, none⟩) 0 0) (.slice ba bl bc) ?_ ?_ _ _ (HAP.out) ?_; (solve | simp [Act.eval]); (solve | simp [Act.eval]))
            | (go_at_call 12; (with_reducible refine (HC.out).mono ?_); rintro e w2 ⟨a2, l2, k2, y, rfl, hS2, HX⟩))
        obtain ⟨hk2, hN2, hy⟩ := HX.out
        clear S0 S1 S2 S3 hS2
        have HK2 : Hid (PC g o i ba bl bc t w2) := hk2
        obtain ⟨c0, c1, c2, c3, c4, c5, c6, c7⟩ := hk2
        rw [HSK.out] at c0
        rcases hy with ⟨hnu, rfl⟩ | ⟨rfl, u, hu, hu15, hl2, hOR⟩
        · have HE : Hid (BkI w l (i + 1) (.slice a3 l3 k3) all (.slice a4 l4 k4) plain n w2) := HSAME.out w2 hN2
          have HLL : Hid (l3 = all.length ∧ l4 = plain.length) := ⟨HI.out.1, HI.out.2.1⟩
          clear HSAME HC HAP HX KEY HK2 hN2 HI hNw HPT HT
          by_cases hun : t.user < 0
          · have hun' : ¬ (0 : Int) ≤ t.user := by omega
            clear hnu
            go_wp2_with fail
            go_roundg (N - (i + 1))
            all_goals (first | omega | exact ⟨i + 1, n, all, plain, a3, l3, k3, a4, l4, k4, by omega, by omega, by first | rfl | (congr 1), rfl, rfl, rfl, HLL.out.1, HLL.out.2, HE.out⟩)
          · have hun1 : (0 : Int) ≤ t.user := by omega
            have hun2 : ¬ t.user ≤ 15 := by omega
            clear hnu
            go_wp2_with fail
            go_roundg (N - (i + 1))
            all_goals (first | omega | exact ⟨i + 1, n, all, plain, a3, l3, k3, a4, l4, k4, by omega, by omega, by first | rfl | (congr 1), rfl, rfl, rfl, HLL.out.1, HLL.out.2, HE.out⟩)
        · have HIS : Hid (Calls Try.prog 17 #[.slice a2 l2 k2] w2 fun e w3 => e = .returned (.bool true) ∧ w3 = w2) := by
            show Calls _ _ _ _ _
            refine (fIs_any _ _ _ w2 hOR).mono ?_
            rintro e w3 ⟨rfl, rfl⟩
            exact ⟨by rw [decide_eq_true (knd_pos_skip u hu15 t.b)], rfl⟩
          obtain ⟨a5, k5, W5, hap5, hN5, HB5⟩ := (HI.out.2.2.nw hN2).skipOk ht hwl u hu15 (.slice a2 l2 k2) (hOR.mono (fun _ h => h.elim))
          rw [← HI.out.1, ← hl2] at hap5 HB5
          have HAP5 : Hid (∀ ty, (Builtin.append_ #[22, 22] ty #[.slice a3 l3 k3, .slice a2 l2 k2]).run Try.prog w2 = .ok (.slice a5 (l3 + l2) k5) W5) := hap5
          have hc5 := KEY.out W5 hN5
          obtain ⟨m0, m1, m2, m3, m4, m5, m6, m7⟩ := hc5
          rw [HSK.out] at m0
          have HLL : Hid (l3 + l2 = (all ++ skipB u t.b).length ∧ l4 = plain.length) := ⟨by rw [List.length_append, ← HI.out.1, hl2], HI.out.2.1⟩
          have hu1 : (0 : Int) ≤ t.user := by omega
          have hu2 : t.user ≤ 15 := by omega
          have hn1w : IntKind.i64.wrap ((n : Int) + 1) = (n : Int) + 1 := by rw [IntKind.wrap_i64]; omega
          clear HSAME HC HAP HX KEY HK2 hN2 HI hNw HPT HT hOR hap5 hu hl2
          go_wp2_with (first | (go_at_call 17; (with_reducible refine HIS.out.mono ?_); rintro e w3 ⟨rfl, rfl⟩) | (at_builtin; refine Lib.wpList_append_run _ rfl _ _ 22 22 rfl (.slice a3 l3 k3) (.slice a2 l2 k2) (by simp [Act.eval]) (by simp [Act.eval]) _ _ (HAP5.out _) ?_))
          go_roundg (N - (i + 1))
          all_goals (first | omega | exact ⟨i + 1, n + 1, _, plain, a5, l3 + l2, k5, a4, l4, k4, by omega, by omega, by first | rfl | (congr 1), by first | rfl | (congr 1), rfl, rfl, HLL.out.1, HLL.out.2, HB5.out⟩)
      · rw [hsk] at c0
        have S0 : wr.cell? ⟨g, o + i * 8 + 2, none⟩ = some (.slice ba bl bc) ∧ wr.cell? ⟨g, o + i * 8 + 3, none⟩ = some (.int .i64 t.k) ∧ wr.cell? ⟨g, o + i * 8 + 4, none⟩ = some (.bool t.b1) ∧ wr.cell? ⟨g, o + i * 8 + 5, none⟩ = some (.bool t.b2) ∧ wr.cell? ⟨g, o + i * 8 + 6, none⟩ = some (.bool t.b3) ∧ wr.cell? ⟨g, o + i * 8 + 7, none⟩ = some (.bool t.b4) := ⟨c2, c3, c4, c5, c6, c7⟩
        have S1 : wr.drew.cell? ⟨g, o + i * 8 + 2, none⟩ = some (.slice ba bl bc) ∧ wr.drew.cell? ⟨g, o + i * 8 + 3, none⟩ = some (.int .i64 t.k) ∧ wr.drew.cell? ⟨g, o + i * 8 + 4, none⟩ = some (.bool t.b1) ∧ wr.drew.cell? ⟨g, o + i * 8 + 5, none⟩ = some (.bool t.b2) ∧ wr.drew.cell? ⟨g, o + i * 8 + 6, none⟩ = some (.bool t.b3) ∧ wr.drew.cell? ⟨g, o + i * 8 + 7, none⟩ = some (.bool t.b4) := ⟨d02, d03, d04, d05, d06, d07⟩
        have S2 : (wr.drew.alloc (.cells #[] 5)).cell? ⟨g, o + i * 8 + 2, none⟩ = some (.slice ba bl bc) ∧ (wr.drew.alloc (.cells #[] 5)).cell? ⟨g, o + i * 8 + 3, none⟩ = some (.int .i64 t.k) ∧ (wr.drew.alloc (.cells #[] 5)).cell? ⟨g, o + i * 8 + 4, none⟩ = some (.bool t.b1) ∧ (wr.drew.alloc (.cells #[] 5)).cell? ⟨g, o + i * 8 + 5, none⟩ = some (.bool t.b2) ∧ (wr.drew.alloc (.cells #[] 5)).cell? ⟨g, o + i * 8 + 6, none⟩ = some (.bool t.b3) ∧ (wr.drew.alloc (.cells #[] 5)).cell? ⟨g, o + i * 8 + 7, none⟩ = some (.bool t.b4) := ⟨d12, d13, d14, d15, d16, d17⟩
        have S3 : W1.cell? ⟨g, o + i * 8 + 2, none⟩ = some (.slice ba bl bc) ∧ W1.cell? ⟨g, o + i * 8 + 3, none⟩ = some (.int .i64 t.k) ∧ W1.cell? ⟨g, o + i * 8 + 4, none⟩ = some (.bool t.b1) ∧ W1.cell? ⟨g, o + i * 8 + 5, none⟩ = some (.bool t.b2) ∧ W1.cell? ⟨g, o + i * 8 + 6, none⟩ = some (.bool t.b3) ∧ W1.cell? ⟨g, o + i * 8 + 7, none⟩ = some (.bool t.b4) := ⟨d22, d23, d24, d25, d26, d27⟩
        have HC : Hid (Calls Try.prog 10 #[.slice (some ⟨g1, 0, none⟩) bl c9, .agg #[.int .i64 t.k, .bool t.b1, .bool t.b2, .bool t.b3, .bool t.b4]] W1 fun e w2 => ∃ a2 l2 k2 y, e = .returned (.tuple #[.slice a2 l2 k2, .int .i64 y]) ∧ (w2.cell? ⟨g, o + i * 8 + 2, none⟩ = some (.slice ba bl bc) ∧ w2.cell? ⟨g, o + i * 8 + 3, none⟩ = some (.int .i64 t.k) ∧ w2.cell? ⟨g, o + i * 8 + 4, none⟩ = some (.bool t.b1) ∧ w2.cell? ⟨g, o + i * 8 + 5, none⟩ = some (.bool t.b2) ∧ w2.cell? ⟨g, o + i * 8 + 6, none⟩ = some (.bool t.b3) ∧ w2.cell? ⟨g, o + i * 8 + 7, none⟩ = some (.bool t.b4)) ∧ Hid (PC g o i ba bl bc t w2 ∧ Nw wr w2 ∧ ((¬ (4 ≤ t.k ∧ t.k ≤ 7) ∧ y = 1) ∨ (y = 0 ∧ ∃ (kn : Nat) (bf : List By), t.k = kn ∧ 4 ≤ kn ∧ kn ≤ 7 ∧ EncB ⟨kn, t.b1, t.b2, t.b3, t.b4⟩ t.b 0 bf ∧ l2 = (frameB ⟨kn, t.b1, t.b2, t.b3, t.b4⟩ t.b bf).length ∧ Old w2 (.slice a2 l2 k2) (frameB ⟨kn, t.b1, t.b2, t.b3, t.b4⟩ t.b bf))))) := by
          show Calls _ _ _ _ _
          have hcc := bk_enc W1 (some ⟨g1, 0, none⟩) c9 t (by rw [hbl]; exact hO1.old) (by omega)
          rw [hbl] at hcc
          refine hcc.mono ?_
          rintro e w2 ⟨a2, l2, k2, y, h1, h2, h3⟩
          have hk := KEY.out w2 (hNw.trans (hNW1.trans h2))
          exact ⟨a2, l2, k2, y, h1, ⟨hk.2.2.1, hk.2.2.2.1, hk.2.2.2.2.1, hk.2.2.2.2.2.1, hk.2.2.2.2.2.2.1, hk.2.2.2.2.2.2.2⟩, hk, hNW1.trans h2, h3⟩
        have HOB : Hid (∀ V, Nw w V → Old V (.slice ba bl bc) t.b) := fun V hV => by rw [← hbl]; exact Sl.later hold hV
        clear p0 p1 p2 p3 p4 p5 p6 p7 hold hap hO1 hN1 hNW1 d00 d01 d02 d03 d04 d05 d06 d07 d10 d11 d12 d13 d14 d15 d16 d17 d20 d21 d22 d23 d24 d25 d26 d27 hwt hw1 q14
        have HSK : Hid (t.skip = false) := hsk
        clear hsk
        go_upto_region 14 with fail
        clear c0 c1 c2 c3 c4 c5 c6 c7
        go_region_held3 (fun w' => w'.cell? ⟨g, o + i * 8 + 2, none⟩ = some (.slice ba bl bc) ∧ w'.cell? ⟨g, o + i * 8 + 3, none⟩ = some (.int .i64 t.k) ∧ w'.cell? ⟨g, o + i * 8 + 4, none⟩ = some (.bool t.b1) ∧ w'.cell? ⟨g, o + i * 8 + 5, none⟩ = some (.bool t.b2) ∧ w'.cell? ⟨g, o + i * 8 + 6, none⟩ = some (.bool t.b3) ∧ w'.cell? ⟨g, o + i * 8 + 7, none⟩ = some (.bool t.b4))
          (first | assumption)
          (first
            | (refine step_append_run rfl _ _ rfl (.slice (some ⟨wr.heap.size, 0, none⟩) 0 0) (.slice ba bl bc) ?_ ?_ _ _ (HAP.out) ?_; (solve | simp [Act.eval]); (solve | simp [Act.eval]))
            | (go_at_call 10; (with_reducible refine (HC.out).mono ?_); rintro e w2 ⟨a2, l2, k2, y, rfl, hS2, HX⟩))
        obtain ⟨hk2, hN2, hy⟩ := HX.out
        clear S0 S1 S2 S3 hS2
        obtain ⟨c0, c1, c2, c3, c4, c5, c6, c7⟩ := hk2
        rw [HSK.out] at c0
        rcases hy with ⟨hnu, rfl⟩ | ⟨rfl, kn, bf, hkn, hk4, hk7, hE, hl2, hOR⟩
        · have HE : Hid (BkI w l (i + 1) (.slice a3 l3 k3) all (.slice a4 l4 k4) plain n w2) := HSAME.out w2 hN2
          have HLL : Hid (l3 = all.length ∧ l4 = plain.length) := ⟨HI.out.1, HI.out.2.1⟩
          clear HSAME HC HAP HX KEY hN2 HI hNw HPT HT HOB
          by_cases hun : t.k < 4
          · have hun' : ¬ (4 : Int) ≤ t.k := by omega
            clear hnu
            go_wp2_with fail
            go_roundg (N - (i + 1))
            all_goals (first | omega | exact ⟨i + 1, n, all, plain, a3, l3, k3, a4, l4, k4, by omega, by omega, by first | rfl | (congr 1), rfl, rfl, rfl, HLL.out.1, HLL.out.2, HE.out⟩)
          · have hun1 : (4 : Int) ≤ t.k := by omega
            have hun2 : ¬ t.k ≤ 7 := by omega
            clear hnu
            go_wp2_with fail
            go_roundg (N - (i + 1))
            all_goals (first | omega | exact ⟨i + 1, n, all, plain, a3, l3, k3, a4, l4, k4, by omega, by omega, by first | rfl | (congr 1), rfl, rfl, rfl, HLL.out.1, HLL.out.2, HE.out⟩)
        · have HIS : Hid (Calls Try.prog 17 #[.slice a2 l2 k2] w2 fun e w3 => e = .returned (.bool true) ∧ w3 = w2) := by
            show Calls _ _ _ _ _
            refine (fIs_any _ _ _ w2 hOR).mono ?_
            rintro e w3 ⟨rfl, rfl⟩
            exact ⟨by rw [decide_eq_true (knd_pos_frame _ t.b bf)], rfl⟩
          have hfl := frameB_len _ t.b bf hE
          rw [← hl2, hbl] at hfl
          obtain ⟨a5, k5, W5, hap5, hN5, HB5⟩ := (HI.out.2.2.nw hN2).encOk ht hwl ⟨kn, t.b1, t.b2, t.b3, t.b4⟩ hk4 hk7 bf hE (.slice a2 l2 k2) (hOR.mono (fun _ h => h.elim))
          rw [← HI.out.1, ← hl2] at hap5 HB5
          rw [← HI.out.2.1, hbl] at HB5
          have HAP5 : Hid (∀ ty, (Builtin.append_ #[22, 22] ty #[.slice a3 l3 k3, .slice a2 l2 k2]).run Try.prog w2 = .ok (.slice a5 (l3 + l2) k5) W5) := hap5
          have hc5 := KEY.out W5 hN5
          obtain ⟨m0, m1, m2, m3, m4, m5, m6, m7⟩ := hc5
          rw [HSK.out] at m0
          have HLL : Hid (l3 + l2 = (all ++ frameB ⟨kn, t.b1, t.b2, t.b3, t.b4⟩ t.b bf).length ∧ l4 + bl = (plain ++ t.b).length) := ⟨by rw [List.length_append, ← HI.out.1, hl2], by rw [List.length_append, ← HI.out.2.1, hbl]⟩
          have HK5 : Hid (∀ V, Nw W5 V → PC g o i ba bl bc t V) := fun V hV => KEY.out V (hN5.trans hV)
          have HP6 : Hid (∀ V, Nw W5 V → ∃ a6 k6 W6, Hid (∀ ty, (Builtin.append_ #[22, 22] ty #[.slice a4 l4 k4, .slice ba bl bc]).run Try.prog V = .ok (.slice a6 (l4 + bl) k6) W6) ∧ Hid (BkI w l (i + 1) (.slice a5 (l3 + l2) k5) (all ++ frameB ⟨kn, t.b1, t.b2, t.b3, t.b4⟩ t.b bf) (.slice a6 (l4 + bl) k6) (plain ++ t.b) (n + 1) W6)) := fun V hV => HB5.out V hV (.slice ba bl bc) ((HOB.out V (hN5.trans hV)).mono (fun _ h => h.elim))
          have hu1 : (4 : Int) ≤ t.k := by omega
          have hu2 : t.k ≤ 7 := by omega
          have hn1w : IntKind.i64.wrap ((n : Int) + 1) = (n : Int) + 1 := by rw [IntKind.wrap_i64]; omega
          have hzs : ¬ (4194304 : Int) < (l4 : Int) + (bl : Int) := by omega
          obtain ⟨Z, hZ⟩ : ∃ Z, siz ⟨kn, t.b1, t.b2, t.b3, t.b4⟩ = Z := ⟨_, rfl⟩
          rw [hZ] at hfl
          have hZk : Z = 2 ^ (8 + 2 * kn) := by rw [← hZ]; rfl
          obtain ⟨q, hq⟩ : ∃ q, bl / Z = q := ⟨_, rfl⟩
          rw [hq] at hfl
          have hqb : q ≤ bl := by rw [← hq]; exact Nat.div_le_self _ _
          obtain ⟨pc, hpc⟩ : ∃ pc, q + 1 = pc := ⟨_, rfl⟩
          have hpcq : (q : Int) + 1 = (pc : Int) := by omega
          have hpcw : IntKind.i64.wrap (pc : Int) = (pc : Int) := by rw [IntKind.wrap_i64]; omega
          obtain ⟨e8, he8⟩ : ∃ e8, 8 * pc = e8 := ⟨_, rfl⟩
          have he8q : (8 : Int) * (pc : Int) = (e8 : Int) := by omega
          have he8w : IntKind.i64.wrap (e8 : Int) = (e8 : Int) := by rw [IntKind.wrap_i64]; omega
          obtain ⟨s1', hs1'⟩ : ∃ s1', bl + e8 = s1' := ⟨_, rfl⟩
          have hs1q : (bl : Int) + (e8 : Int) = (s1' : Int) := by omega
          have hs1w : IntKind.i64.wrap (s1' : Int) = (s1' : Int) := by rw [IntKind.wrap_i64]; omega
          obtain ⟨s2', hs2'⟩ : ∃ s2', s1' + 23 = s2' := ⟨_, rfl⟩
          have hs2q : (s1' : Int) + 23 = (s2' : Int) := by omega
          have hs2w : IntKind.i64.wrap (s2' : Int) = (s2' : Int) := by rw [IntKind.wrap_i64]; omega
          have hcmp : ¬ (s2' : Int) < (l2 : Int) := by omega
          have hk4' : kn = 4 ∨ kn = 5 ∨ kn = 6 ∨ kn = 7 := by omega
          rw [hkn] at m3
          clear HSAME HC HAP HX KEY hN2 HI hNw HPT HT HOB hOR hap5 hl2 HB5 hE hfl hZ hpc he8 hs1' hs2'
          have HKN : Hid (t.k = kn) := hkn
          clear hkn
          rcases hk4' with rfl | rfl | rfl | rfl
          · have m3' : W5.cell? ⟨g, o + i * 8 + 3, none⟩ = some (.int .i64 4) := m3
            clear m3
            have hqt : Int.tdiv (bl : Int) 65536 = (q : Int) := by rw [Int.tdiv_eq_ediv_of_nonneg (by omega), ← hq, hZk]; omega
            have hqd : (bl : Int) / 65536 = (q : Int) := by rw [← hq, hZk]; omega
            clear hq hZk hk4 hk7
            go_upto_region 23 with (first | (go_at_call 17; (with_reducible refine HIS.out.mono ?_); rintro e w3 ⟨rfl, rfl⟩) | (at_builtin; refine Lib.wpList_append_run _ rfl _ _ 22 22 rfl (.slice a3 l3 k3) (.slice a2 l2 k2) (by simp [Act.eval]) (by simp [Act.eval]) _ _ (HAP5.out _) ?_))
            go_quiet (fail)
            have hV6 : Nw W5 (W5.drewN nq) := (Fr.refl _ _).drewN nq
            obtain ⟨a6, k6, W6, HAP6, HB6⟩ := HP6.out _ hV6
            clear c0 c1 c2 c3 c4 c5 c6 c7 m0 m1 m2 m3' m4 m5 m6 m7
            obtain ⟨m0, m1, m2, m3, m4, m5, m6, m7⟩ := HK5.out _ hV6
            clear m3
            clear HP6 HK5 HAP5 HIS
            generalize W5.drewN nq = V6 at *
            go_wp2_with (first | (at_builtin; refine Lib.wpList_append_run _ rfl _ _ 22 22 rfl (.slice a4 l4 k4) (.slice ba bl bc) (by simp [Act.eval]) (by simp [Act.eval]) _ _ (HAP6.out _) ?_))
            go_roundg (N - (i + 1))
            all_goals (first | omega | exact ⟨i + 1, n + 1, _, _, a5, l3 + l2, k5, a6, l4 + bl, k6, by omega, by omega, by first | rfl | (congr 1), by first | rfl | (congr 1), rfl, rfl, HLL.out.1, HLL.out.2, HB6.out⟩)
          · have m3' : W5.cell? ⟨g, o + i * 8 + 3, none⟩ = some (.int .i64 5) := m3
            clear m3
            have hqt : Int.tdiv (bl : Int) 262144 = (q : Int) := by rw [Int.tdiv_eq_ediv_of_nonneg (by omega), ← hq, hZk]; omega
            have hqd : (bl : Int) / 262144 = (q : Int) := by rw [← hq, hZk]; omega
            clear hq hZk hk4 hk7
            go_upto_region 23 with (first | (go_at_call 17; (with_reducible refine HIS.out.mono ?_); rintro e w3 ⟨rfl, rfl⟩) | (at_builtin; refine Lib.wpList_append_run _ rfl _ _ 22 22 rfl (.slice a3 l3 k3) (.slice a2 l2 k2) (by simp [Act.eval]) (by simp [Act.eval]) _ _ (HAP5.out _) ?_))
            go_quiet (fail)
            have hV6 : Nw W5 (W5.drewN nq) := (Fr.refl _ _).drewN nq
            obtain ⟨a6, k6, W6, HAP6, HB6⟩ := HP6.out _ hV6
            clear c0 c1 c2 c3 c4 c5 c6 c7 m0 m1 m2 m3' m4 m5 m6 m7
            obtain ⟨m0, m1, m2, m3, m4, m5, m6, m7⟩ := HK5.out _ hV6
            clear m3
            clear HP6 HK5 HAP5 HIS
            generalize W5.drewN nq = V6 at *
            go_wp2_with (first | (at_builtin; refine Lib.wpList_append_run _ rfl _ _ 22 22 rfl (.slice a4 l4 k4) (.slice ba bl bc) (by simp [Act.eval]) (by simp [Act.eval]) _ _ (HAP6.out _) ?_))
            go_roundg (N - (i + 1))
            all_goals (first | omega | exact ⟨i + 1, n + 1, _, _, a5, l3 + l2, k5, a6, l4 + bl, k6, by omega, by omega, by first | rfl | (congr 1), by first | rfl | (congr 1), rfl, rfl, HLL.out.1, HLL.out.2, HB6.out⟩)
          · have m3' : W5.cell? ⟨g, o + i * 8 + 3, none⟩ = some (.int .i64 6) := m3
            clear m3
            have hqt : Int.tdiv (bl : Int) 1048576 = (q : Int) := by rw [Int.tdiv_eq_ediv_of_nonneg (by omega), ← hq, hZk]; omega
            have hqd : (bl : Int) / 1048576 = (q : Int) := by rw [← hq, hZk]; omega
            clear hq hZk hk4 hk7
            go_upto_region 23 with (first | (go_at_call 17; (with_reducible refine HIS.out.mono ?_); rintro e w3 ⟨rfl, rfl⟩) | (at_builtin; refine Lib.wpList_append_run _ rfl _ _ 22 22 rfl (.slice a3 l3 k3) (.slice a2 l2 k2) (by simp [Act.eval]) (by simp [Act.eval]) _ _ (HAP5.out _) ?_))
            go_quiet (fail)
            have hV6 : Nw W5 (W5.drewN nq) := (Fr.refl _ _).drewN nq
            obtain ⟨a6, k6, W6, HAP6, HB6⟩ := HP6.out _ hV6
            clear c0 c1 c2 c3 c4 c5 c6 c7 m0 m1 m2 m3' m4 m5 m6 m7
            obtain ⟨m0, m1, m2, m3, m4, m5, m6, m7⟩ := HK5.out _ hV6
            clear m3
            clear HP6 HK5 HAP5 HIS
            generalize W5.drewN nq = V6 at *
            go_wp2_with (first | (at_builtin; refine Lib.wpList_append_run _ rfl _ _ 22 22 rfl (.slice a4 l4 k4) (.slice ba bl bc) (by simp [Act.eval]) (by simp [Act.eval]) _ _ (HAP6.out _) ?_))
            go_roundg (N - (i + 1))
            all_goals (first | omega | exact ⟨i + 1, n + 1, _, _, a5, l3 + l2, k5, a6, l4 + bl, k6, by omega, by omega, by first | rfl | (congr 1), by first | rfl | (congr 1), rfl, rfl, HLL.out.1, HLL.out.2, HB6.out⟩)
          · have m3' : W5.cell? ⟨g, o + i * 8 + 3, none⟩ = some (.int .i64 7) := m3
            clear m3
            have hqt : Int.tdiv (bl : Int) 4194304 = (q : Int) := by rw [Int.tdiv_eq_ediv_of_nonneg (by omega), ← hq, hZk]; omega
            have hqd : (bl : Int) / 4194304 = (q : Int) := by rw [← hq, hZk]; omega
            clear hq hZk hk4 hk7
            go_upto_region 23 with (first | (go_at_call 17; (with_reducible refine HIS.out.mono ?_); rintro e w3 ⟨rfl, rfl⟩) | (at_builtin; refine Lib.wpList_append_run _ rfl _ _ 22 22 rfl (.slice a3 l3 k3) (.slice a2 l2 k2) (by simp [Act.eval]) (by simp [Act.eval]) _ _ (HAP5.out _) ?_))
            go_quiet (fail)
            have hV6 : Nw W5 (W5.drewN nq) := (Fr.refl _ _).drewN nq
            obtain ⟨a6, k6, W6, HAP6, HB6⟩ := HP6.out _ hV6
            clear c0 c1 c2 c3 c4 c5 c6 c7 m0 m1 m2 m3' m4 m5 m6 m7
            obtain ⟨m0, m1, m2, m3, m4, m5, m6, m7⟩ := HK5.out _ hV6
            clear m3
            clear HP6 HK5 HAP5 HIS
            generalize W5.drewN nq = V6 at *
            go_wp2_with (first | (at_builtin; refine Lib.wpList_append_run _ rfl _ _ 22 22 rfl (.slice a4 l4 k4) (.slice ba bl bc) (by simp [Act.eval]) (by simp [Act.eval]) _ _ (HAP6.out _) ?_))
            go_roundg (N - (i + 1))
            all_goals (first | omega | exact ⟨i + 1, n + 1, _, _, a5, l3 + l2, k5, a6, l4 + bl, k6, by omega, by omega, by first | rfl | (congr 1), by first | rfl | (congr 1), rfl, rfl, HLL.out.1, HLL.out.2, HB6.out⟩)
    · obtain rfl : i = N := by omega
      have hz : ¬ (i : Int) < (i : Int) := by omega
      obtain ⟨e3, e4, hB⟩ := HI.out
      obtain ⟨f1, f2, f3, fs, f4, f5⟩ := hB.fin hwl
      have hNw : Nw w wr := hB.2.2.2.2.2
      have hOA := hB.1.old
      have hOP := hB.1.swap.old
      rw [← e3, ← e4] at f3 f5
      rw [← e3] at f1
      rw [← e4] at f2
      obtain ⟨g1, c9, W1, hap1, hO1, _, hN1⟩ := copyB wr (.slice a3 l3 k3) all hOA (by omega)
      rw [← e3] at hap1 hO1
      have HAP1 : Hid (∀ ty, (Builtin.append_ #[22, 22] ty #[.slice (some ⟨wr.heap.size, 0, none⟩) 0 0, .slice a3 l3 k3]).run Try.prog (wr.alloc (.cells #[] 5)) = .ok (.slice (some ⟨g1, 0, none⟩) l3 c9) W1) := hap1
      have HD : Hid (Calls Try.prog 15 #[.slice (some ⟨g1, 0, none⟩) l3 c9, .int .i64 l4] W1 fun e w2 => ∃ a2 c2, e = .returned (.tuple #[.slice a2 l4 c2, .int .i64 l3, .int .i64 0]) ∧ ∃ g5 c5 W3, Hid (∀ ty, (Builtin.append_ #[22, 22] ty #[.slice (some ⟨w2.heap.size, 0, none⟩) 0 0, .slice a3 l3 k3]).run Try.prog (w2.alloc (.cells #[] 5)) = .ok (.slice (some ⟨g5, 0, none⟩) l3 c5) W3) ∧ Hid (Calls Try.prog 16 #[.slice (some ⟨g5, 0, none⟩) l3 c5, .int .i64 l4] W3 fun e w4 => ∃ a7 k7, e = .returned (.tuple #[.slice a7 n k7, .int .i64 l3, .int .i64 0]) ∧ (convert 22 9 (.slice a2 l4 c2)).run Try.prog w4 = .ok (.string (str plain)) w4 ∧ (convert 22 9 (.slice a4 l4 k4)).run Try.prog w4 = .ok (.string (str plain)) w4 ∧ Hid (P (.returned (.bool true)) w4))) := by
        show Calls _ _ _ _ _
        have hd := fdecode_any W1 _ all (l4 : Int) hO1.old (by omega)
        rw [f3] at hd
        refine hd.mono ?_
        rintro e w2 ⟨a2, c2, rfl, hM2, hN2⟩
        simp only at hM2 ⊢
        rw [← e4] at hM2 ⊢
        refine ⟨a2, c2, rfl, ?_⟩
        have hw2 : Nw wr w2 := hN1.trans hN2
        obtain ⟨g5, c5, W3, hap3, hO3, _, hN3⟩ := copyB w2 (.slice a3 l3 k3) all (Sl.later hOA hw2) (by omega)
        rw [← e3] at hap3 hO3
        refine ⟨g5, c5, W3, hap3, ?_⟩
        show Calls _ _ _ _ _
        refine (fframes_any W3 _ all (l4 : Int) hO3.old (by omega)).mono ?_
        rintro e w4 ⟨a7, n7, k7, rfl, hn7, _, hN4⟩
        rw [f5] at hn7 ⊢
        simp only at hn7 ⊢
        subst hn7
        rw [f4]
        have hw4 : Nw wr w4 := (hw2.trans hN3).trans hN4
        exact ⟨a7, k7, rfl, conv_any (Sl.later (Sl.later hM2.old hN3) hN4), conv_any (Sl.later hOP hw4), HT.out _ (hNw.trans hw4)⟩
      clear HI hB f1 f2 f3 f4 f5 hNw hOA hOP hap1 hO1 hN1 HPT HT e3 e4
      generalize str plain = sp at *
      go_wp2_with (first | (at_builtin; refine Lib.wpList_append_run _ rfl _ _ 22 22 rfl (.slice (some ⟨wr.heap.size, 0, none⟩) 0 0) (.slice a3 l3 k3) (by simp [Act.eval]) (by simp [Act.eval]) _ _ (HAP1.out _) ?_) | (go_at_call 15; (with_reducible refine HD.out.mono ?_); rintro e w2 ⟨a2, c2, rfl, g5, c5, W3, HAP3, HFR⟩) | (at_builtin; refine Lib.wpList_append_run _ rfl _ _ 22 22 rfl (.slice (some ⟨w2.heap.size, 0, none⟩) 0 0) (.slice a3 l3 k3) (by simp [Act.eval]) (by simp [Act.eval]) _ _ (HAP3.out _) ?_) | (go_at_call 16; (with_reducible refine HFR.out.mono ?_); rintro e w4 ⟨a7, k7, rfl, q1, q2, HE⟩))
      exact HE.out
end Go.Proofs.Ytdeefemeiggolaa
