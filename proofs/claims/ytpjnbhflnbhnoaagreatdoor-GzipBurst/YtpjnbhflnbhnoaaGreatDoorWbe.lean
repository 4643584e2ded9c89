import Derived.Test.YtpjnbhflnbhnoaaGreatDoorWbd
namespace Go.Proofs.YtpjnbhflnbhnoaaGreatDoor
open Go.RowKit
set_option linter.unusedVariables false
variable {sb rb : Nat} {K : Nat → Prop} {rv : Value} {v : Value} {b : List By} {p : Nat} {skip left : Int} {most told : Nat} {m : Mm} {s : Sx} {w : World}
theorem copyN_succ (d n : Nat) (out : List By) : copyN d (n + 1) out = copyN d n out ++ [(copyN d n out).getD ((copyN d n out).length - d) 0#8] := by
  induction n generalizing out with
  | zero => rfl
  | succ n ih => rw [copyN, ih, ← copyN]
theorem copyN_length (d n : Nat) (out : List By) : (copyN d n out).length = out.length + n := by
  induction n with
  | zero => rfl
  | succ n ih => rw [copyN_succ, List.length_append, ih]; simp; omega
noncomputable def matR (most : Nat) (s : Sx) (n : Nat) : Rdr Sx := bindR (distR s.lb) fun d => if s.out.length < d then failR 64 else if most - s.out.length < n then failR 32 else retR { s with out := copyN d n s.out }
/-- How the loop of a match stands. -/
def MtI (sb rb : Nat) (K : Nat → Prop) (v : Value) (b : List By) (p' : Nat) (skip left : Int) (most told : Nat) (s : Sx) (w : World) (d I : Nat) (W : World) : Prop :=
  ∃ m', StI sb rb K v b p' skip left most told m' { s with out := copyN d I s.out } W ∧ Fr (fun k => ¬ K k) w W
theorem MtI.step {p' d I : Nat} {W : World} (h : MtI sb rb K v b p' skip left most told s w d I W) (hd : 1 ≤ d) (hd2 : d ≤ 32768) (hd3 : d ≤ s.out.length) (hr : s.out.length + I < most) :
    ∃ (g c y q n size : Nat), q < n ∧ n ≤ c ∧ c < 9223372036854775808 ∧ y ≤ 255 ∧ size ≤ 4194304 ∧ d ≤ size ∧ ((size : Int) - (d : Int)).tmod 32768 = (q : Int) ∧ W.cell? ⟨sb, 4, none⟩ = some (.int .i64 size) ∧ W.cell? ⟨sb, 5, none⟩ = some (.slice (some ⟨g, 0, none⟩) n c) ∧ W.cell? ⟨g, q, none⟩ = some (.int .u8 y) ∧ Hid (∀ V, Nw W V → Calls Tryz.prog 188 #[.pointer (some ⟨sb, 0, none⟩), .int .u8 y] V fun e W' => (∃ r, e = .returned r) ∧ Hid (MtI sb rb K v b p' skip left most told s w d (I + 1) W')) := by
  obtain ⟨m', h1, h2⟩ := h
  have hl := copyN_length d I s.out
  obtain ⟨O, hO⟩ : ∃ O, O = copyN d I s.out := ⟨_, rfl⟩
  rw [← hO] at h1 hl
  have hw := h1.sm.wi
  simp only at hw
  have hml := h1.sm.ml
  have hol := h1.sm.ol
  simp only at hol
  have hi : O.length - d < O.length := by omega
  have hx := hw.2 (O.length - d) hi (by omega)
  rw [List.getElem?_eq_getElem hi] at hx
  obtain ⟨q, hq⟩ : ∃ q, q = (O.length - d) % 32768 := ⟨_, rfl⟩
  rw [← hq] at hx
  have hqw : q < m'.wl.length := (List.getElem?_eq_some_iff.1 hx).1
  cases how : m'.ow with
  | none =>
    have := h1.sm.win
    rw [how] at this
    rw [this.2] at hqw
    simp at hqw
  | some g =>
    have hOw : Ow g m'.vw m'.wl W := by
      have := h1.sm.win
      rw [how] at this
      exact this
    have hat := hOw.slb
    obtain ⟨xs, e1, e2, e3, e4, e5⟩ := hOw
    obtain ⟨o, c, f1, f2, f3, f4⟩ := hat
    rw [e1] at f1
    injection f1 with f1 _ f5
    injection f1 with f1
    injection f1 with _ f6
    subst f6
    subst f5
    have hcell := f4.at q _ hx
    rw [Nat.zero_add] at hcell
    have c5 := (sc5 h1.sm.row).1
    rw [e1] at c5
    have hyl := (O[O.length - d]).isLt
    refine ⟨g, xs.length, (O[O.length - d]).toNat, q, m'.wl.length, O.length, hqw, f2, f3, by omega, by omega, by omega, ?_, (sc4 h1.sm.row).1, c5, hcell, fun V hV => ?_⟩
    · rw [Int.tmod_eq_emod_of_nonneg (by omega)]; omega
    · refine (put_any (h1.nw hV) O[O.length - d] _ rfl (by simp only; omega)).mono ?_
      rintro e W' ⟨a1, ⟨m2, _, _, _, _, a6⟩, a7⟩
      refine ⟨a1, m2, ?_, (h2.trans hV.any).trans a7⟩
      have e : ({ s with out := O } : Sx).put O[O.length - d] = { s with out := copyN d (I + 1) s.out } := by
        unfold Sx.put
        rw [copyN_succ, ← hO, List.getD_eq_getElem?_getD, List.getElem?_eq_getElem hi]
        rfl
      rw [e] at a6
      exact a6
theorem StI.cod2 (h : StI sb rb K v b p skip left most told m s w) (hm : s.md = 2) : CodV K m.us s.la w ∧ CodV K m.ud s.lb w := h.sm.cs hm
set_option maxHeartbeats 16000000 in
set_option maxRecDepth 100000 in
theorem match_any (h : StI sb rb K v b p skip left most told m s w) (hm : s.md = 2) (n : Nat) (hn : n ≤ 1000000) :
    Calls Tryz.prog 192 #[.pointer (some ⟨sb, 0, none⟩), .int .i64 n] w (Ps sb rb K v b skip left most told m s w (matR most s n (bt b p))) := by
  obtain ⟨P, hP⟩ : ∃ P : Ending → World → Prop, P = Ps sb rb K v b skip left most told m s w (matR most s n (bt b p)) := ⟨_, rfl⟩
  rw [← hP]
  have BAD : Hid (∀ y W, matR most s n (bt b p) = .bad y → SmI sb K (.pointer (some ⟨rb, 0, none⟩)) skip left most told m s W → Fr (fun k => ¬ K k) w W → P (gv y) W) := fun y W h1 h2 h3 => by
    rw [hP]
    exact .inl ⟨y, h1, rfl, ⟨m.l, h2⟩, h3⟩
  have OK : Hid (∀ s' p' m' r W, matR most s n (bt b p) = .ok (s', bt b p') → StI sb rb K v b p' skip left most told m' s' W → Fr (fun k => ¬ K k) w W → P (.returned r) W) := fun s' p' m' r W h1 h2 h3 => by
    rw [hP]
    exact .inr ⟨s', p', m', K, r, h1, rfl, h2, fun _ hk => hk, fun _ hk => .inl hk, h3⟩
  have HD : Hid (Calls Tryz.prog 208 #[.pointer (some ⟨sb, 0, none⟩)] w (Rsn sb rb K v b skip left most told m s w (distR s.lb (bt b p)))) := (distance_any h.lt (sc11 h.sm.row).1 (h.cod2 hm).2 h.kr).mono (fun e w' hh => Ri.st h hh)
  have HG : Hid (∀ V, Calls Tryz.prog 186 #[.int .i64 64] V fun e w' => e = gv 64 ∧ w' = V) := fun V => giveUp_any 64 V
  have hol := h.sm.ol
  have hml := h.sm.ml
  clear hP h
  go_enter Tryz.func192, Tryz.ntmps192
  go_wp2_with fail
  go_at_call 208
  with_reducible refine HD.out.mono ?_
  unfold Rsn
  rintro e w1 (⟨y, rfl, H1⟩ | ⟨d, rfl, H1⟩)
  · exact ⟨rfl, BAD.out y w1 (bindR_bad H1.out.1) H1.out.2.1 H1.out.2.2⟩
  · obtain ⟨p1, q1, h1, f1⟩ := H1.out
    obtain ⟨hd1, hd2⟩ := distR_le q1
    have hM : matR most s n (bt b p) = (if s.out.length < d then failR 64 else if most - s.out.length < n then failR 32 else retR { s with out := copyN d n s.out }) (bt b p1) := bindR_eq q1
    have c4 := (sc4 h1.sm.row).1
    have c3 := (sc3 h1.sm.row).1
    by_cases hds : s.out.length < d
    · have HF : Hid (P (gv 64) w1) := BAD.out 64 w1 (by rw [hM, if_pos hds]; rfl) h1.sm f1
      have hz : (s.out.length : Int) < (d : Int) := by omega
      clear BAD OK HD H1 q1 h1 f1 hM
      go_wp2_with (first | (go_at_call 186; (with_reducible refine (HG.out _).mono ?_); rintro e w4 ⟨rfl, rfl⟩))
      exact ⟨rfl, HF.out⟩
    · rw [if_neg hds] at hM
      have hz : ¬ (s.out.length : Int) < (d : Int) := by omega
      by_cases hroom : most - s.out.length < n
      · have HND : Hid (Calls Tryz.prog 191 #[.pointer (some ⟨sb, 0, none⟩), .int .i64 n] w1 fun e w' => e = gv 32 ∧ Hid (Nw w1 w')) := need_no n s.out.length c3 c4 hml hol (by omega) hroom n rfl
        have HF : Hid (∀ W, Nw w1 W → P (gv 32) W) := fun W hW => BAD.out 32 W (by rw [hM, if_pos hroom]; rfl) (h1.nw hW).sm (f1.trans hW.any)
        clear BAD OK HD H1 q1 h1 f1 hM
        go_wp2_with (first | (go_at_call 191; (with_reducible refine HND.out.mono ?_); rintro e w4 ⟨rfl, H4⟩))
        exact ⟨rfl, HF.out _ H4.out⟩
      · rw [if_neg hroom] at hM
        have HND : Hid (Calls Tryz.prog 191 #[.pointer (some ⟨sb, 0, none⟩), .int .i64 n] w1 fun e w' => (∃ r, e = .returned r) ∧ Hid (Nw w1 w')) := need_yes n s.out.length c3 c4 hml hol (by omega) hroom n rfl
        have HS0 : Hid (∀ W, Nw w1 W → MtI sb rb K v b p1 skip left most told s w d 0 W) := fun W hW => ⟨m, h1.nw hW, f1.trans hW.any⟩
        have HSTP : Hid (∀ I W, MtI sb rb K v b p1 skip left most told s w d I W → I < n → ∃ (g c y q n size : Nat), q < n ∧ n ≤ c ∧ c < 9223372036854775808 ∧ y ≤ 255 ∧ size ≤ 4194304 ∧ d ≤ size ∧ ((size : Int) - (d : Int)).tmod 32768 = (q : Int) ∧ W.cell? ⟨sb, 4, none⟩ = some (.int .i64 size) ∧ W.cell? ⟨sb, 5, none⟩ = some (.slice (some ⟨g, 0, none⟩) n c) ∧ W.cell? ⟨g, q, none⟩ = some (.int .u8 y) ∧ Hid (∀ V, Nw W V → Calls Tryz.prog 188 #[.pointer (some ⟨sb, 0, none⟩), .int .u8 y] V fun e W' => (∃ r, e = .returned r) ∧ Hid (MtI sb rb K v b p1 skip left most told s w d (I + 1) W'))) := fun I W hI hlt => hI.step hd1 hd2 (by omega) (by omega)
        have HEND : Hid (∀ W r, MtI sb rb K v b p1 skip left most told s w d n W → P (.returned r) W) := fun W r ⟨m', k1, k2⟩ => OK.out _ p1 m' r W (by rw [hM]; rfl) k1 k2
        clear BAD OK HD H1 q1 h1 f1 hM hroom hds
        generalize s.out.length = size0 at *
        go_wp2_with (first | (go_at_call 191; (with_reducible refine HND.out.mono ?_); rintro e w4 ⟨⟨r, rfl⟩, H4⟩))
        have HS1 : Hid (MtI sb rb K v b p1 skip left most told s w d 0 w4) := HS0.out w4 H4.out
        clear HS0 H4 HND c3 c4
        go_loopg [18] n (fun kx i wr => ∃ I : Nat, I ≤ n ∧ n - I ≤ kx ∧ i = .int .i64 I ∧ Hid (MtI sb rb K v b p1 skip left most told s w d I wr))
        case atStart => exact ⟨0, by omega, by omega, rfl, HS1⟩
        case round =>
          obtain ⟨I, hI, hkx, rfl, HI⟩ := hrel
          clear HS1
          by_cases hlt : I < n
          · obtain ⟨g, c, y, q, nn, size, k1, k2, k3, k4, k5, k6, k7, k8, k9, k10, HY⟩ := HSTP.out I wr HI.out hlt
            have hzl : (I : Int) < (n : Int) := by omega
            have hqi : (q : Int) < (nn : Int) := by omega
            have hN0 : Nw wr wr := Fr.refl _ _
            obtain ⟨D, hD⟩ : ∃ D : Nat, (size : Int) - (d : Int) = (D : Int) := ⟨size - d, by omega⟩
            have hDl : D ≤ 4194304 := by omega
            have hwr : IntKind.i64.wrap ((size : Int) - (d : Int)) = (D : Int) := by rw [hD, w64 _ (by omega)]
            have hwr2 : IntKind.i64.wrap (D : Int) = (D : Int) := w64 _ (by omega)
            have hq0 : (0 : Int) ≤ (q : Int) := by omega
            rw [hD] at k7
            have hwr3 : IntKind.i64.wrap (q : Int) = (q : Int) := w64 _ (by rw [Int.tmod_eq_emod_of_nonneg (by omega)] at k7; omega)
            have k7' : (D : Int) % 32768 = (q : Int) := by rw [← k7, Int.tmod_eq_emod_of_nonneg (by omega)]
            clear HSTP HEND HI
            go_wp2_with fail
            go_region_with (first
              | (go_at_call 188; with_reducible refine (HY.out _ ?_).mono ?_; (first | assumption | exact (Fr.refl _ _).drew | exact Fr.refl _ _ | exact (Fr.refl _ _).drewN _); rintro e w3 ⟨⟨r, rfl⟩, H3⟩))
            all_goals go_wp2_with fail
            all_goals go_roundg (n - (I + 1))
            all_goals (first | omega | exact ⟨I + 1, by omega, by omega, by first | rfl | (congr 1), H3⟩)
          · obtain rfl : I = n := by omega
            have hzl : ¬ (I : Int) < (I : Int) := by omega
            have HF : Hid (∀ r, P (.returned r) wr) := fun r => HEND.out wr r HI.out
            clear HSTP HEND HI
            go_wp2_with fail
            go_end0
            exact HF.out _
end Go.Proofs.YtpjnbhflnbhnoaaGreatDoor

namespace Go.Proofs.YtpjnbhflnbhnoaaGreatDoor
open Go.RowKit
set_option linter.unusedVariables false
variable {sb rb : Nat} {K : Nat → Prop} {rv : Value} {v : Value} {b : List By} {p : Nat} {skip left : Int} {most told : Nat} {m : Mm} {s : Sx} {w : World}
theorem symbolR_eq (most : Nat) (s : Sx) : symbolR most s = bindR (symR s.la) fun y =>
  if y < 256 then (if most - s.out.length < 1 then failR 32 else retR { s with out := s.out ++ [BitVec.ofNat 8 y] })
  else if y = 256 then endB s
  else if y ≤ 285 then bindR (lenR y) (matR most s)
  else failR 63 := rfl
theorem lenR_le {y x : Nat} {t t' : Bt} (h2 : y ≤ 285) (hq : lenR y t = .ok (x, t')) : x ≤ 1000000 := by
  unfold lenR at hq
  split at hq
  · injection hq with hq; injection hq with hq; omega
  · obtain ⟨a, t1, q1, q2⟩ := bindR_ok hq
    injection q2 with q2
    injection q2 with q2
    unfold furR at q1
    split at q1
    · injection q1 with q1; injection q1 with q1; omega
    · obtain ⟨a2, t2, q3, q4⟩ := bindR_ok q1
      injection q4 with q4
      injection q4 with q4
      have k1 := takeR_lt q3
      have k2 : 2 ^ ((y - 257) / 4 - 1) ≤ 2 ^ 15 := Nat.pow_le_pow_right (by decide) (by omega)
      have k3 : (4 + (y - 257) % 4) * 2 ^ ((y - 257) / 4 - 1) ≤ 8 * 2 ^ 15 := Nat.mul_le_mul (by omega) k2
      omega
set_option maxHeartbeats 16000000 in
set_option maxRecDepth 100000 in
theorem symbol_any (h : StI sb rb K v b p skip left most told m s w) (hm : s.md = 2) :
    Calls Tryz.prog 164 #[.pointer (some ⟨sb, 0, none⟩)] w (Ps sb rb K v b skip left most told m s w (symbolR most s (bt b p))) := by
  obtain ⟨P, hP⟩ : ∃ P : Ending → World → Prop, P = Ps sb rb K v b skip left most told m s w (symbolR most s (bt b p)) := ⟨_, rfl⟩
  rw [← hP]
  have BAD : Hid (∀ y W, symbolR most s (bt b p) = .bad y → SmI sb K (.pointer (some ⟨rb, 0, none⟩)) skip left most told m s W → Fr (fun k => ¬ K k) w W → P (gv y) W) := fun y W h1 h2 h3 => by
    rw [hP]
    exact .inl ⟨y, h1, rfl, ⟨m.l, h2⟩, h3⟩
  have OK : Hid (∀ s' p' m' r W, symbolR most s (bt b p) = .ok (s', bt b p') → StI sb rb K v b p' skip left most told m' s' W → Fr (fun k => ¬ K k) w W → P (.returned r) W) := fun s' p' m' r W h1 h2 h3 => by
    rw [hP]
    exact .inr ⟨s', p', m', K, r, h1, rfl, h2, fun _ hk => hk, fun _ hk => .inl hk, h3⟩
  have PASS : Hid (∀ e V W r, Fr (fun k => ¬ K k) w V → symbolR most s (bt b p) = r → Ps sb rb K v b skip left most told m s V r e W → P e W) := fun e V W r hV hr hh => by
    rw [hP, hr]
    rcases hh with ⟨y, a1, a2, a3, a4⟩ | ⟨s', p', m', K', x, a1, a2, a3, a4, a5, a6⟩
    · exact .inl ⟨y, a1, a2, a3, hV.trans a4⟩
    · refine .inr ⟨s', p', m', K', x, a1, a2, a3, a4, fun k hk => ?_, hV.trans a6⟩
      rcases a5 k hk with e | e
      · exact .inl e
      · exact .inr (Nat.le_trans hV.size e)
  obtain ⟨ua, hua⟩ := h.sm.pu
  have HW : Hid (Calls Tryz.prog 190 #[.pointer (some ⟨sb, 0, none⟩), .pointer ua] w (Rsn sb rb K v b skip left most told m s w (symR s.la (bt b p)))) := by
    show Calls _ _ _ _ _
    rw [← hua]
    exact (jword_any h.lt (h.cod2 hm).1 h.kr).mono (fun e w' hh => Ri.st h hh)
  have HG : Hid (∀ V, Calls Tryz.prog 186 #[.int .i64 63] V fun e w' => e = gv 63 ∧ w' = V) := fun V => giveUp_any 63 V
  have hol := h.sm.ol
  have hml := h.sm.ml
  have c10 := (sc10 h.sm.row).1
  rw [hua] at c10
  clear hP h
  go_enter Tryz.func164, Tryz.ntmps164
  go_wp2_with fail
  go_at_call 190
  with_reducible refine HW.out.mono ?_
  unfold Rsn
  rintro e w1 (⟨y, rfl, H1⟩ | ⟨y, rfl, H1⟩)
  · exact ⟨rfl, BAD.out y w1 (bindR_bad H1.out.1) H1.out.2.1 H1.out.2.2⟩
  · obtain ⟨p1, q1, h1, f1⟩ := H1.out
    have hyl : y < 320 := by
      have := symR_lt q1
      have := this.2.len
      omega
    have hM : symbolR most s (bt b p) = (if y < 256 then (if most - s.out.length < 1 then failR 32 else retR { s with out := s.out ++ [BitVec.ofNat 8 y] })
      else if y = 256 then endB s
      else if y ≤ 285 then bindR (lenR y) (matR most s)
      else failR 63) (bt b p1) := bindR_eq q1
    have c4 := (sc4 h1.sm.row).1
    have c3 := (sc3 h1.sm.row).1
    clear HW c10 H1
    by_cases hy1 : y < 256
    · rw [if_pos hy1] at hM
      have hz1 : (y : Int) < 256 := by omega
      by_cases hroom : most - s.out.length < 1
      · have HND : Hid (Calls Tryz.prog 191 #[.pointer (some ⟨sb, 0, none⟩), .int .i64 1] w1 fun e w' => e = gv 32 ∧ Hid (Nw w1 w')) := need_no 1 s.out.length c3 c4 hml hol (by omega) hroom 1 rfl
        have HF : Hid (∀ W, Nw w1 W → P (gv 32) W) := fun W hW => BAD.out 32 W (by rw [hM, if_pos hroom]; rfl) (h1.nw hW).sm (f1.trans hW.any)
        clear BAD OK PASS q1 h1 f1 hM
        go_wp2_with (first | (go_at_call 191; (with_reducible refine HND.out.mono ?_); rintro e w4 ⟨rfl, H4⟩))
        exact ⟨rfl, HF.out _ H4.out⟩
      · have HND : Hid (Calls Tryz.prog 191 #[.pointer (some ⟨sb, 0, none⟩), .int .i64 1] w1 fun e w' => (∃ r, e = .returned r) ∧ Hid (Nw w1 w')) := need_yes 1 s.out.length c3 c4 hml hol (by omega) hroom 1 rfl
        rw [if_neg hroom] at hM
        have HPT : Hid (∀ V, Nw w1 V → Calls Tryz.prog 188 #[.pointer (some ⟨sb, 0, none⟩), .int .u8 y] V fun e W => (∃ r, e = .returned r) ∧ Hid (∀ r, P (.returned r) W)) := fun V hV => (put_any (h1.nw hV) (BitVec.ofNat 8 y) y (by rw [BitVec.toNat_ofNat]; omega) (by omega)).mono (fun e W ⟨a1, ⟨m2, _, _, _, _, a6⟩, a7⟩ => ⟨a1, fun r => OK.out _ p1 m2 r W (by rw [hM]; rfl) a6 ((f1.trans hV.any).trans a7)⟩)
        have hz2 : IntKind.u8.wrap (y : Int) = (y : Int) := by rw [IntKind.wrap_u8]; omega
        clear BAD OK PASS q1 h1 f1 hM
        go_wp2_with (first | (go_at_call 191; (with_reducible refine HND.out.mono ?_); rintro e w4 ⟨⟨r, rfl⟩, H4⟩) | (go_at_call 188; (with_reducible refine (HPT.out _ H4.out).mono ?_); rintro e w5 ⟨⟨r, rfl⟩, HF⟩))
        go_end0
        exact HF.out _
    · rw [if_neg hy1] at hM
      have hz1 : ¬ (y : Int) < 256 := by omega
      by_cases hy2 : y = 256
      · rw [if_pos hy2] at hM
        have hz2 : ((y : Int) == 256) = true := by simp; omega
        have HE : Hid (Calls Tryz.prog 189 #[.pointer (some ⟨sb, 0, none⟩)] w1 fun e w5 => (∃ r, e = .returned r) ∧ Hid (∀ r, P (.returned r) w5)) := (endBlock_any h1 (h1.sm.ls (by omega))).mono (fun e w5 ⟨a1, ⟨s', p', m2, a2, a3⟩, a4⟩ => ⟨a1, fun r => OK.out s' p' m2 r w5 (by rw [hM]; exact a2) a3 (f1.trans a4)⟩)
        clear BAD OK PASS q1 h1 f1 hM hy2
        go_wp2_with (first | (go_at_call 189; (with_reducible refine HE.out.mono ?_); rintro e w5 ⟨⟨r, rfl⟩, HF⟩))
        go_end0
        exact HF.out _
      · rw [if_neg hy2] at hM
        have hz2 : ((y : Int) == 256) = false := by simp; omega
        by_cases hy3 : y ≤ 285
        · rw [if_pos hy3] at hM
          have hz3 : (y : Int) ≤ 285 := by omega
          have HLN : Hid (Calls Tryz.prog 193 #[.pointer (some ⟨sb, 0, none⟩), .int .i64 y] w1 (Rsn sb rb K v b skip left most told m s w1 (lenR y (bt b p1)))) := (length_any h1.lt y (by omega) hy3).mono (fun e w' hh => Ri.st h1 hh)
          have HM : Hid (symbolR most s (bt b p) = bindR (lenR y) (matR most s) (bt b p1)) := hM
          have F1 : Hid (Fr (fun k => ¬ K k) w w1) := f1
          clear q1 h1 f1 hM c3 c4
          go_wp2_with fail
          go_at_call 193
          with_reducible refine HLN.out.mono ?_
          unfold Rsn
          rintro e w2 (⟨z, rfl, H2⟩ | ⟨n, rfl, H2⟩)
          · exact ⟨rfl, BAD.out z w2 (by rw [HM.out]; exact bindR_bad H2.out.1) H2.out.2.1 (F1.out.trans H2.out.2.2)⟩
          · obtain ⟨p2, q2, h2, f2⟩ := H2.out
            have hM2 : symbolR most s (bt b p) = matR most s n (bt b p2) := by rw [HM.out]; exact bindR_eq q2
            have HMT : Hid (Calls Tryz.prog 192 #[.pointer (some ⟨sb, 0, none⟩), .int .i64 n] w2 fun e W => (∃ y, e = gv y ∧ Hid (P (gv y) W)) ∨ (∃ r, e = .returned r ∧ Hid (∀ r, P (.returned r) W))) := (match_any h2 hm n (lenR_le hy3 q2)).mono (fun e W hh => by
              have hPP := PASS.out e w2 W _ (F1.out.trans f2) hM2 hh
              rcases hh with ⟨y, a1, a2, a3, a4⟩ | ⟨s', p', m', K', x, a1, a2, a3, a4, a5, a6⟩
              · subst a2
                exact .inl ⟨y, rfl, hPP⟩
              · subst a2
                refine .inr ⟨x, rfl, fun r => ?_⟩
                exact PASS.out (.returned r) w2 W _ (F1.out.trans f2) hM2 (.inr ⟨s', p', m', K', r, a1, rfl, a3, a4, a5, a6⟩))
            clear BAD OK PASS H2 HLN HM q2 h2 f2 hM2
            go_wp2_with fail
            go_at_call 192
            with_reducible refine HMT.out.mono ?_
            rintro e w3 (⟨z, rfl, HF⟩ | ⟨r, rfl, HF⟩)
            · exact ⟨rfl, HF.out⟩
            · go_wp2_with fail
              go_end0
              exact HF.out _
        · rw [if_neg hy3] at hM
          have hz3 : ¬ (y : Int) ≤ 285 := by omega
          have HF : Hid (P (gv 63) w1) := BAD.out 63 w1 (by rw [hM]; rfl) h1.sm f1
          clear BAD OK PASS q1 h1 f1 hM
          go_wp2_with (first | (go_at_call 186; (with_reducible refine (HG.out _).mono ?_); rintro e w4 ⟨rfl, rfl⟩))
          exact ⟨rfl, HF.out⟩
end Go.Proofs.YtpjnbhflnbhnoaaGreatDoor

namespace Go.Proofs.YtpjnbhflnbhnoaaGreatDoor
open Go.RowKit
set_option linter.unusedVariables false
theorem sumL_app (a b : List Nat) : sumL (a ++ b) = sumL a + sumL b := by
  induction a with
  | nil => simp [sumL]
  | cons x r ih =>
    have e : sumL (x :: r ++ b) = x + sumL (r ++ b) := rfl
    have e2 : sumL (x :: r) = x + sumL r := rfl
    rw [e, ih, e2]; omega
theorem sumL_take (ls : List Nat) (I : Nat) (h : I < ls.length) : sumL (ls.take (I + 1)) = sumL (ls.take I) + ls.getD I 0 := by
  rw [List.take_add_one, List.getElem?_eq_getElem h, sumL_app, List.getD_eq_getElem?_getD, List.getElem?_eq_getElem h]
  simp [sumL]
theorem sumL_le (ls : List Nat) (h : ∀ i, ls.getD i 0 ≤ 15) (I : Nat) (hI : I ≤ ls.length) : sumL (ls.take I) ≤ 15 * I := by
  induction I with
  | zero => simp [sumL]
  | succ I ih =>
    rw [sumL_take ls I (by omega)]
    have := ih (by omega)
    have := h I
    omega
set_option maxHeartbeats 8000000 in
set_option maxRecDepth 100000 in
theorem single_any (w : World) (v : Value) (ls : List Nat) (h : SlR RI (fun _ => False) v (toI ls) w) (h15 : ∀ i, ls.getD i 0 ≤ 15) (hl : ls.length ≤ 320) : Calls Tryz.prog 217 #[v] w fun e w' => e = .returned (.bool (decide (sumL ls = 1))) ∧ w' = w := by
  obtain ⟨P, hP⟩ : ∃ P : Ending → World → Prop, P = fun e w' => e = .returned (.bool (decide (sumL ls = 1))) ∧ w' = w := ⟨_, rfl⟩
  rw [← hP]
  obtain ⟨a, c, rfl, hc, hc2, hca⟩ := h.form
  rw [toI_length] at hc h ⊢
  have HS : Hid (∀ I, I < ls.length → ∃ g o, a = some ⟨g, o, none⟩ ∧ w.cell? ⟨g, o + I, none⟩ = some (.int .i64 (ls.getD I 0 : Nat))) := fun I hI => by
    obtain ⟨g, o, e, _, hcell⟩ := ri_at h I _ (toI_at ls I hI)
    exact ⟨g, o, e, hcell⟩
  have HB : Hid (∀ I, I ≤ ls.length → sumL (ls.take I) ≤ 15 * I) := fun I hI => sumL_le ls h15 I hI
  have HT : Hid (∀ I, I < ls.length → sumL (ls.take (I + 1)) = sumL (ls.take I) + ls.getD I 0) := fun I hI => sumL_take ls I hI
  have HF : Hid (∀ x, x = decide (sumL ls = 1) → P (.returned (.bool x)) w) := fun x hx => by rw [hP, hx]; exact ⟨rfl, rfl⟩
  have HE : Hid (sumL (ls.take ls.length) = sumL ls) := by
    show _ = _
    rw [List.take_length]
  clear hP h hca
  generalize hL : ls.length = L at *
  have HL : Hid (ls.length = L) := hL
  clear hL
  go_enter Tryz.func217, Tryz.ntmps217
  go_wp2
  go_loopg [3, 8] L (fun kx s i wr => ∃ (I S : Nat), I ≤ L ∧ L - I ≤ kx ∧ s = .int .i64 S ∧ i = .int .i64 I ∧ S ≤ 5000 ∧ wr = w ∧ Hid (S = sumL (ls.take I)))
  case atStart => exact ⟨0, 0, by omega, by omega, rfl, rfl, by omega, rfl, (show (0 : Nat) = sumL (ls.take 0) by simp [sumL])⟩
  case round =>
    obtain ⟨I, S, hI, hkx, rfl, rfl, hS, rfl, HI⟩ := hrel
    by_cases hlt : I < L
    · obtain ⟨g, o, rfl, hcell⟩ := HS.out I hlt
      have hz : (I : Int) < (L : Int) := by omega
      have hx15 := h15 I
      have hS2 : S + ls.getD I 0 ≤ 5000 := by
        have h1 := HB.out (I + 1) (by omega)
        have h2 := HT.out I hlt
        have h3 := HI.out
        omega
      have HN : Hid (S + ls.getD I 0 = sumL (ls.take (I + 1))) := by
        show _ = _
        rw [HT.out I hlt, ← HI.out]
      have hsum : (S : Int) + ((ls.getD I 0 : Nat) : Int) = ((S + ls.getD I 0 : Nat) : Int) := by omega
      clear HS HF HE HB HT HI
      generalize ls.getD I 0 = x at *
      generalize S + x = S' at *
      go_wp2_with fail
      go_roundg (L - (I + 1))
      all_goals (first | omega | exact ⟨I + 1, S', by omega, by omega, by first | rfl | (congr 1), by first | rfl | (congr 1), hS2, rfl, HN⟩)
    · obtain rfl : I = L := by omega
      have hz : ¬ (I : Int) < (I : Int) := by omega
      have HF2 : Hid (P (.returned (.bool ((S : Int) == 1))) wr) := HF.out _ (by
        rw [HI.out, HE.out]
        by_cases e : sumL ls = 1
        · simp [e]
        · rw [decide_eq_false e]; simp; omega)
      clear HS HF HE HB HT HI
      go_wp2_with fail
      exact HF2.out
set_option maxHeartbeats 8000000 in
set_option maxRecDepth 100000 in
theorem maxI_any (w : World) (v : Value) (ls : List Nat) (h : SlR RI (fun _ => False) v (toI ls) w) (h15 : ∀ i, ls.getD i 0 ≤ 15) (hl : ls.length ≤ 320) (hl0 : 1 ≤ ls.length) : Calls Tryz.prog 206 #[v] w fun e w' => (∃ M : Nat, e = .returned (.int .i64 M) ∧ M ≤ 15 ∧ Hid (M = 0 ↔ sumL ls = 0)) ∧ w' = w := by
  obtain ⟨P, hP⟩ : ∃ P : Ending → World → Prop, P = fun e w' => (∃ M : Nat, e = .returned (.int .i64 M) ∧ M ≤ 15 ∧ Hid (M = 0 ↔ sumL ls = 0)) ∧ w' = w := ⟨_, rfl⟩
  rw [← hP]
  obtain ⟨a, c, rfl, hc, hc2, hca⟩ := h.form
  rw [toI_length] at hc h ⊢
  have HS : Hid (∀ I, I < ls.length → ∃ g o, a = some ⟨g, o, none⟩ ∧ w.cell? ⟨g, o + I, none⟩ = some (.int .i64 (ls.getD I 0 : Nat))) := fun I hI => by
    obtain ⟨g, o, e, _, hcell⟩ := ri_at h I _ (toI_at ls I hI)
    exact ⟨g, o, e, hcell⟩
  have HT : Hid (∀ I, I < ls.length → sumL (ls.take (I + 1)) = sumL (ls.take I) + ls.getD I 0) := fun I hI => sumL_take ls I hI
  have HF : Hid (∀ M, M ≤ 15 → (M = 0 ↔ sumL (ls.take ls.length) = 0) → P (.returned (.int .i64 (M : Nat))) w) := fun M h1 h2 => by
    rw [hP]
    rw [List.take_length] at h2
    exact ⟨⟨M, rfl, h1, h2⟩, rfl⟩
  obtain ⟨g, o, rfl, hcell0⟩ := HS.out 0 (by omega)
  rw [Nat.add_zero] at hcell0
  have h150 := h15 0
  have HX0 : Hid (ls.getD 0 0 = 0 ↔ sumL (ls.take 1) = 0) := by
    show _ ↔ _
    rw [HT.out 0 (by omega)]
    simp [sumL]
  clear hP h hca
  generalize hL : ls.length = L at *
  have HL : Hid (ls.length = L) := hL
  clear hL
  generalize hx0 : ls.getD 0 0 = x0 at *
  clear hx0
  have hz1 : ¬ (L : Int) < 1 := by omega
  have hz2 : (0 : Int) < (L : Int) := by omega
  go_enter Tryz.func206, Tryz.ntmps206
  go_wp2
  go_loopg [3, 4] L (fun kx s i wr => ∃ (I M : Nat), 1 ≤ I ∧ I ≤ L ∧ L - I ≤ kx ∧ s = .int .i64 M ∧ i = .int .i64 I ∧ M ≤ 15 ∧ wr = w ∧ Hid (M = 0 ↔ sumL (ls.take I) = 0))
  case atStart => exact ⟨1, x0, by omega, by omega, by omega, rfl, rfl, by omega, rfl, HX0⟩
  case round =>
    obtain ⟨I, M, hI1, hI, hkx, rfl, rfl, hM, rfl, HI⟩ := hrel
    clear hcell0 HX0
    by_cases hlt : I < L
    · obtain ⟨g', o', e, hcell⟩ := HS.out I hlt
      injection e with e
      injection e with e1 e2
      subst e1 e2
      have hz : (I : Int) < (L : Int) := by omega
      have hx15 := h15 I
      obtain ⟨M', hM'⟩ : ∃ M', M' = max M (ls.getD I 0) := ⟨_, rfl⟩
      have HN : Hid (M' = 0 ↔ sumL (ls.take (I + 1)) = 0) := by
        show _ ↔ _
        rw [HT.out I hlt, hM']
        have := HI.out
        constructor
        · intro hh
          have := this.1 (by omega)
          omega
        · intro hh
          have := this.2 (by omega)
          omega
      have hmax : max (M : Int) ((ls.getD I 0 : Nat) : Int) = (M' : Int) := by omega
      have hM15 : M' ≤ 15 := by omega
      clear HS HF HT HI hM'
      generalize ls.getD I 0 = x at *
      go_wp2_with fail
      go_roundg (L - (I + 1))
      all_goals (first | omega | exact ⟨I + 1, M', by omega, by omega, by omega, by first | rfl | (congr 1), by first | rfl | (congr 1), hM15, rfl, HN⟩)
    · obtain rfl : I = L := by omega
      have hz : ¬ (I : Int) < (I : Int) := by omega
      have HF2 : Hid (P (.returned (.int .i64 M)) wr) := HF.out M hM HI.out
      clear HS HF HT HI
      go_wp2_with fail
      exact HF2.out
end Go.Proofs.YtpjnbhflnbhnoaaGreatDoor

namespace Go.Proofs.YtpjnbhflnbhnoaaGreatDoor
open Go.RowKit
set_option linter.unusedVariables false
theorem isCode_iff (ls : List Nat) : IsCode (toI ls) ↔ Cod ls := by
  constructor
  · rintro ⟨l2, e, h⟩
    rw [toI_inj _ _ e]; exact h
  · intro h; exact ⟨ls, rfl, h⟩
/-- What codeOf answers: a code of its own, or the error. -/
def Cdd (ls : List Nat) (w : World) (e : Ending) (w' : World) : Prop := ∃ cb gw gs ws ss, e = .returned (.pointer (some ⟨cb, 0, none⟩)) ∧ CodeI cb gw gs ls ws ss w' ∧ Nw w w' ∧ w.heap.size ≤ cb ∧ w.heap.size ≤ gw ∧ w.heap.size ≤ gs
set_option maxHeartbeats 16000000 in
set_option maxRecDepth 100000 in
theorem codeOf_any (w : World) (v : Value) (ls : List Nat) (h : SlR RI (fun k => w.heap.size ≤ k) v (toI ls) w) (h15 : ∀ i, ls.getD i 0 ≤ 15) (hl : ls.length ≤ 320) :
    (Good ls → Calls Tryz.prog 205 #[v] w (Cdd ls w)) ∧ (¬ Good ls → Calls Tryz.prog 205 #[v] w fun e w' => e = gv 62 ∧ Nw w w') := by
  have HG : Hid (∀ V, Calls Tryz.prog 186 #[.int .i64 62] V fun e w' => e = gv 62 ∧ w' = V) := fun V => giveUp_any 62 V
  obtain ⟨a, c, rfl, hc, hc2, hca⟩ := h.form
  rw [toI_length] at hc h ⊢
  have HSI : Hid (∀ V, Nw w V → Calls Tryz.prog 217 #[.slice a ls.length c] V fun e w' => e = .returned (.bool (decide (sumL ls = 1))) ∧ w' = V) := fun V hV => single_any V _ ls ((h.nw hV).mono (fun _ h => h.elim)) h15 hl
  by_cases hk : Cod ls
  · have hN := newCode_yes w _ ls h hk
    by_cases hr : room ls = 32768
    · refine ⟨fun _ => ?_, fun hn => absurd ⟨hk, .inl hr⟩ hn⟩
      obtain ⟨P, hP⟩ : ∃ P : Ending → World → Prop, P = Cdd ls w := ⟨_, rfl⟩
      rw [← hP]
      have HN : Hid (Calls Tryz.prog 118 #[.slice a ls.length c] w fun e w1 => ∃ cb, e = .returned (.tuple #[.pointer (some ⟨cb, 0, none⟩), .int .i64 0]) ∧ Hid (Calls Tryz.prog 216 #[.pointer (some ⟨cb, 0, none⟩)] w1 fun e w2 => e = .returned (.bool true) ∧ Hid (P (.returned (.pointer (some ⟨cb, 0, none⟩))) w2))) := hN.mono (fun e w1 ⟨cb, gw, gs, ws, ss, a1, a2, a3, a4, a5, a6⟩ => ⟨cb, a1, (whole_any a2 hk).mono (fun e w2 ⟨b1, b2⟩ => ⟨by rw [b1, decide_eq_true hr], by
        show P _ _
        rw [hP]
        exact ⟨cb, gw, gs, ws, ss, rfl, a2.nw b2, a3.trans b2, a4, a5, a6⟩⟩)⟩)
      clear hP hN h HSI HG hca
      generalize ls.length = L at *
      go_enter Tryz.func205, Tryz.ntmps205
      go_wp2_with (first | (go_at_call 118; (with_reducible refine HN.out.mono ?_); rintro e w1 ⟨cb, rfl, HW⟩) | (go_at_call 216; (with_reducible refine HW.out.mono ?_); rintro e w2 ⟨rfl, HF⟩))
      exact HF.out
    · by_cases hs : sumL ls = 1
      · refine ⟨fun _ => ?_, fun hn => absurd ⟨hk, .inr hs⟩ hn⟩
        obtain ⟨P, hP⟩ : ∃ P : Ending → World → Prop, P = Cdd ls w := ⟨_, rfl⟩
        rw [← hP]
        have HN : Hid (Calls Tryz.prog 118 #[.slice a ls.length c] w fun e w1 => ∃ cb, e = .returned (.tuple #[.pointer (some ⟨cb, 0, none⟩), .int .i64 0]) ∧ Hid (Calls Tryz.prog 216 #[.pointer (some ⟨cb, 0, none⟩)] w1 fun e w2 => e = .returned (.bool false) ∧ Hid (Nw w w2) ∧ Hid (P (.returned (.pointer (some ⟨cb, 0, none⟩))) w2))) := hN.mono (fun e w1 ⟨cb, gw, gs, ws, ss, a1, a2, a3, a4, a5, a6⟩ => ⟨cb, a1, (whole_any a2 hk).mono (fun e w2 ⟨b1, b2⟩ => ⟨by rw [b1, decide_eq_false hr], a3.trans b2, by
          show P _ _
          rw [hP]
          exact ⟨cb, gw, gs, ws, ss, rfl, a2.nw b2, a3.trans b2, a4, a5, a6⟩⟩)⟩)
        have HS2 : Hid (∀ V, Nw w V → Calls Tryz.prog 217 #[.slice a ls.length c] V fun e w' => e = .returned (.bool true) ∧ V = w') := fun V hV => (HSI.out V hV).mono (fun e w' ⟨h1, h2⟩ => ⟨by rw [h1, decide_eq_true hs], h2.symm⟩)
        clear hP hN h HSI HG hca
        generalize ls.length = L at *
        go_enter Tryz.func205, Tryz.ntmps205
        go_wp2_with (first | (go_at_call 118; (with_reducible refine HN.out.mono ?_); rintro e w1 ⟨cb, rfl, HW⟩) | (go_at_call 216; (with_reducible refine HW.out.mono ?_); rintro e w2 ⟨rfl, H2, HF⟩) | (go_at_call 217; (with_reducible refine (HS2.out _ H2.out).mono ?_); rintro e w3 ⟨rfl, rfl⟩))
        exact HF.out
      · refine ⟨fun hg => (by rcases hg.2 with e | e; exact absurd e hr; exact absurd e hs), fun _ => ?_⟩
        obtain ⟨P, hP⟩ : ∃ P : Ending → World → Prop, P = fun e w' => e = gv 62 ∧ Nw w w' := ⟨_, rfl⟩
        rw [← hP]
        have HN : Hid (Calls Tryz.prog 118 #[.slice a ls.length c] w fun e w1 => ∃ cb, e = .returned (.tuple #[.pointer (some ⟨cb, 0, none⟩), .int .i64 0]) ∧ Hid (Calls Tryz.prog 216 #[.pointer (some ⟨cb, 0, none⟩)] w1 fun e w2 => e = .returned (.bool false) ∧ Hid (Nw w w2) ∧ Hid (P (gv 62) w2))) := hN.mono (fun e w1 ⟨cb, gw, gs, ws, ss, a1, a2, a3, a4, a5, a6⟩ => ⟨cb, a1, (whole_any a2 hk).mono (fun e w2 ⟨b1, b2⟩ => ⟨by rw [b1, decide_eq_false hr], a3.trans b2, by
          show P _ _
          rw [hP]
          exact ⟨rfl, a3.trans b2⟩⟩)⟩)
        have HS2 : Hid (∀ V, Nw w V → Calls Tryz.prog 217 #[.slice a ls.length c] V fun e w' => e = .returned (.bool false) ∧ V = w') := fun V hV => (HSI.out V hV).mono (fun e w' ⟨h1, h2⟩ => ⟨by rw [h1, decide_eq_false hs], h2.symm⟩)
        clear hP hN h HSI hca
        generalize ls.length = L at *
        go_enter Tryz.func205, Tryz.ntmps205
        go_wp2_with (first | (go_at_call 118; (with_reducible refine HN.out.mono ?_); rintro e w1 ⟨cb, rfl, HW⟩) | (go_at_call 216; (with_reducible refine HW.out.mono ?_); rintro e w2 ⟨rfl, H2, HF⟩) | (go_at_call 217; (with_reducible refine (HS2.out _ H2.out).mono ?_); rintro e w3 ⟨rfl, rfl⟩) | (go_at_call 186; (with_reducible refine (HG.out _).mono ?_); rintro e w4 ⟨rfl, hw4⟩; replace hw4 := hw4.symm; subst hw4))
        exact ⟨rfl, HF.out⟩
  · refine ⟨fun hg => absurd hg.1 hk, fun _ => ?_⟩
    obtain ⟨P, hP⟩ : ∃ P : Ending → World → Prop, P = fun e w' => e = gv 62 ∧ Nw w w' := ⟨_, rfl⟩
    rw [← hP]
    have HN : Hid (Calls Tryz.prog 118 #[.slice a ls.length c] w fun e w1 => e = .returned (.tuple #[.pointer none, .int .i64 51]) ∧ Hid (P (gv 62) w1)) := (newCode_no w _ (toI ls) h (by rw [toI_length]; omega) (fun hi => hk ((isCode_iff ls).1 hi))).mono (fun e w1 ⟨a1, a2⟩ => ⟨a1, by
      show P _ _
      rw [hP]
      exact ⟨rfl, a2⟩⟩)
    clear hP h HSI hca
    generalize ls.length = L at *
    go_enter Tryz.func205, Tryz.ntmps205
    go_wp2_with (first | (go_at_call 118; (with_reducible refine HN.out.mono ?_); rintro e w1 ⟨rfl, HF⟩) | (go_at_call 186; (with_reducible refine (HG.out _).mono ?_); rintro e w4 ⟨rfl, hw4⟩; replace hw4 := hw4.symm; subst hw4))
    exact ⟨rfl, HF.out⟩
end Go.Proofs.YtpjnbhflnbhnoaaGreatDoor
