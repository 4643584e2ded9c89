import Derived.Test.YtcogkhcfpgelhabVgF
namespace Go.Proofs.Ytcogkhcfpgelhab
open Go.RowKit
set_option linter.unusedVariables false
set_option maxRecDepth 100000
variable {w w' D : World} {fb mb : Nat}
theorem old_nw {w W : World} {v : Value} {l : List By} (h : Old w v l) (hN : Nw w W) : Old W v l := h.later hN
/-- Behind the second Write. -/
def S10 (D : World) (fb mb : Nat) (data b : List By) (pl : Int) (g c : Nat) (B : Bool) (wr : World) : Prop := (B = true → ¬ wBad pl b.length ∧ b ≠ [] ∧ SW D fb mb (wrD data pl.toNat b) data g c 3 wr) ∧ (B = false → SW D fb mb data data g c 3 wr)
/-- Behind Resize. -/
def S17 (D : World) (fb mb : Nat) (d : List By) (size : Int) (g c : Nat) (B : Bool) (wr : World) : Prop := (B = true → ¬ (size < 0 ∨ 4194304 < size) ∧ SW D fb mb (rszD d size.toNat) d g c 4 wr) ∧ (B = false → SW D fb mb d d g c 4 wr)
theorem SX.more {X : Nat → Prop} {f : List By} {N N' : Nat} (H : SX D fb mb X f N w) (hN : N ≤ N') : SX D fb mb X f N' w := by
  obtain ⟨T, h1, h2, h3⟩ := H
  exact ⟨T, by omega, h2, h3⟩
theorem SW.up {f l : List By} {g c N N' : Nat} (H : SW D fb mb f l g c N w) (hN : N ≤ N') : SW D fb mb f l g c N' w := ⟨H.1.more hN, H.2⟩
theorem SW.same {f l l' : List By} {g c N : Nat} (H : SW D fb mb f l g c N w) (e : l = l') : SW D fb mb f l' g c N w := e ▸ H
theorem brsz_any {f l : List By} {g c N : Nat} (H : SW D fb mb f l g c N w) (hN : N ≤ 100) (size : Int) : Calls Try.prog 8 #[.pointer (some ⟨fb, 0, none⟩), .int .i64 2, .int .i64 size] w fun e w' => (e = .returned (.int .i64 1) ∧ Hid (SW D fb mb f l g c N w')) ∨ (e = .returned (.int .i64 0) ∧ Hid (¬ (size < 0 ∨ 4194304 < size) ∧ SW D fb mb (rszD f size.toNat) l g c (N + 1) w')) := by
  have H0 := H
  obtain ⟨⟨T, h1, h2, h3⟩, hO, hD⟩ := H
  refine Calls.mono (bresize h3 h2 (by omega) size) ?_
  rintro e w' (⟨hb, rfl, hF, hNw⟩ | ⟨hb, rfl, ⟨T', hT', hF⟩, hFr⟩)
  · exact .inl ⟨rfl, H0.nw hNw⟩
  · exact .inr ⟨rfl, hb, H0.fr ⟨T', by omega, by rw [rszD_len]; omega, hF⟩ hFr⟩
theorem SW.cut {f l : List By} {g c N : Nat} (H : SW D fb mb f l g c N w) (n : Nat) (hn : n ≤ l.length) : SW D fb mb f (l.take n) g c N w := by
  obtain ⟨c9, e, _, _, h4⟩ := H.2.1.cut n hn
  injection e with _ _ e
  subst e
  refine ⟨H.1, ?_, H.2.2⟩
  rw [List.length_take, Nat.min_eq_left hn]
  exact h4
theorem rsz_cut (d : List By) (j S : Nat) (h1 : S ≤ d.length + j) (h2 : d.length + j ≤ max d.length S) : (d ++ List.replicate j 0#8).take S = rszD d S := by
  unfold rszD
  by_cases hS : d.length ≤ S
  · rw [if_pos hS, List.take_of_length_le (by simp; omega)]
    congr 2
    omega
  · have hj : j = 0 := by omega
    rw [if_neg hS, hj]
    simp
theorem bread_any {d : List By} {g c N : Nat} (H : SW D fb mb d d g c N w) : Calls Try.prog 9 #[.pointer (some ⟨fb, 0, none⟩), .int .i64 2, .int .i64 0, .int .i64 4194304] w fun e w' => ∃ a' c', e = .returned (.tuple #[.slice a' d.length c', .int .i64 0]) ∧ Hid (Sl (fun _ => False) (.slice a' d.length c') d w' ∧ SW D fb mb d d g c N w') := by
  have H0 := H
  obtain ⟨⟨T, h1, h2, h3⟩, hO, hD⟩ := H
  refine Calls.mono (read_ok (l := d) h3 2 ⟨by omega, by omega⟩ 0 4194304 ⟨by omega, by omega⟩ ⟨by omega, by omega⟩ (bQ_two d) h2 (brdE d) (brd d h2)) ?_
  rintro e w' ⟨a', c', rfl, k2, k3, k4⟩
  exact ⟨a', c', rfl, k2, H0.nw k4⟩
theorem bstat_any {d : List By} {g c N : Nat} (H : SW D fb mb d d g c N w) : Calls Try.prog 10 #[.pointer (some ⟨fb, 0, none⟩), .int .i64 2] w fun e w' => e = .returned (.tuple #[.agg #[.int .i64 2, .int .i64 2, .int .u32 0, .int .u32 0, .int .u32 0, .int .i64 0, .int .i32 0, .int .i64 1, .int .i64 d.length], .int .i64 0]) ∧ Hid (SW D fb mb d d g c N w' ∧ Nw w w') := by
  have H0 := H
  obtain ⟨⟨T, h1, h2, h3⟩, hO, hD⟩ := H
  refine Calls.mono (stat_ok h3 2 ⟨by omega, by omega⟩ (bQ_two d) ⟨h2, by show 0 ≤ _; omega, by show 0 ≤ _; omega⟩) ?_
  rintro e w' ⟨rfl, k3, k4⟩
  exact ⟨rfl, H0.nw k4, k4⟩
set_option maxHeartbeats 16000000 in
theorem bytes_walk (w : World) (da ba : Option Addr) (dc cb : Nat) (data b : List By) (hOd : Old w (.slice da data.length dc) data) (hOb : Old w (.slice ba b.length cb) b) (hdl : data.length ≤ 140737488351232) (hbl : b.length ≤ 140737488351232) (pl size : Int) (hp : I64 pl) (hsz : I64 size) :
    Calls Try.prog 3 #[.slice da data.length dc, .int .i64 pl, .slice ba b.length cb, .int .i64 size] w fun e w' => e = .returned (.bool true) ∧ Nw w w' := by
  obtain ⟨P, hP⟩ : ∃ P : Ending → World → Prop, P = fun e w' => e = .returned (.bool true) ∧ Nw w w' := ⟨_, rfl⟩
  rw [← hP]
  have HF : Hid (∀ V, Nw w V → P (.returned (.bool true)) V) := fun V hV => by rw [hP]; exact ⟨rfl, hV⟩
  clear hP
  have HOD := tHid hOd
  have HOB := tHid hOb
  have HDL := tHid hdl
  have HBL := tHid hbl
  have HPL := tHid hp
  have HSZ := tHid hsz
  clear hOd hOb hdl hbl hp hsz
  have CL : Hid (Calls Try.prog 4 #[] w fun e w' => e = .returned (.bool true) ∧ Hid (Nw w w')) := lives_any w
  go_enter Try.func3, Try.ntmps3
  go_upto_region 3 with (first | (go_at_call 4; with_reducible refine CL.out.mono ?_; rintro e D ⟨rfl, H1⟩))
  clear CL
  have C0 := tHid (bc_new D)
  go_upto_region 6 with (first | (go_at_call 5; with_reducible refine C0.out.mono ?_; rintro e w2 ⟨fb, mb, rfl, H2⟩))
  clear C0
  have C1 := tHid (bc_create H2.out)
  go_upto_region 7 with (first | (go_at_call 6; with_reducible refine C1.out.mono ?_; rintro e w3 ⟨rfl, H3⟩))
  clear C1 H2
  obtain ⟨g0, c0, W4, HA0, HW0⟩ := cw_any H3.out (by omega) (fun k h => h.elim) 0 ⟨by omega, by omega⟩ _ data (old_nw HOD.out (H1.out.trans H3.out.nwD)) HDL.out
  obtain ⟨dl, hdl⟩ : ∃ dl, dl = data.length := ⟨_, rfl⟩
  obtain ⟨bl, hbl⟩ : ∃ bl, bl = b.length := ⟨_, rfl⟩
  have HDE := tHid hdl
  have HBE := tHid hbl
  rw [← hdl] at HA0 HW0 ⊢
  rw [← hbl]
  clear hdl hbl
  go_wp2_with (first
    | (at_builtin; refine Lib.wpList_append_run _ rfl _ _ 22 22 rfl (.slice (some ⟨w3.heap.size, 0, none⟩) 0 0) (.slice da dl dc) (by simp [Act.eval]) (by simp [Act.eval]) _ _ (HA0.out _) ?_))
  go_at_call 7
  with_reducible refine HW0.out.mono ?_
  rintro e w5 (⟨rfl, HB⟩ | ⟨rfl, HB⟩)
  · obtain ⟨hb1, hb2, _⟩ := HB.out
    have hgt : (4194304 : Int) < (dl : Int) := by
      unfold wBad at hb1
      omega
    have hgd := decide_eq_true hgt
    have HF2 := tHid (HF.out _ (H1.out.trans hb2.nwD))
    clear HB hb1 hb2 HF HOD HOB H1 H3 HW0 HA0
    go_wp2_with fail
    exact HF2.out
  · obtain ⟨_, hb2, _⟩ := HB.out
    have e0 : (0 : Int).toNat = 0 := rfl
    rw [e0, wrD_new] at hb2
    obtain ⟨g, c, W6, HA1, hO6, hN6, hg6⟩ := cp_any w5 _ data (old_nw HOD.out (H1.out.trans hb2.nwD)) HDL.out
    have HSW : Hid (SW D fb mb data data g c 2 W6) := by
      have hgl := hO6.lt
      have hDs := hb2.nwD.size
      refine ⟨?_, hO6, by omega⟩
      obtain ⟨T, h1, h2, h3⟩ := hb2
      exact ⟨T, h1, h2, h3.grow (Y := fun _ => False) hN6 (fun k hk => hk.elim) (fun k hk => .inr ⟨by omega, by omega⟩)⟩
    rw [← HDE.out] at HA1
    clear HB hb2 hO6 hN6 hg6 HA0 HW0 H3
    go_upto_region 10 with (first
      | (at_builtin; refine Lib.wpList_append_run _ rfl _ _ 22 22 rfl (.slice (some ⟨w5.heap.size, 0, none⟩) 0 0) (.slice da dl dc) (by simp [Act.eval]) (by simp [Act.eval]) _ _ (HA1.out _) ?_))
    clear HA1
    go_cut [62] (fun v wr => ∃ B, v = .bool B ∧ Hid (S10 D fb mb data b pl g c B wr))
    case first =>
      obtain ⟨g2, c2, W7, HA2, HW2⟩ := cw_any HSW.out.1 (by omega) (fun k hk => by have hk : k = g := hk; rw [hk]; exact HSW.out.2.2) pl HPL.out _ b (old_nw HOB.out (H1.out.trans HSW.out.1.nwD)) HBL.out
      rw [← HBE.out] at HA2 HW2
      go_wp2_with (first
        | (at_builtin; refine Lib.wpList_append_run _ rfl _ _ 22 22 rfl (.slice (some ⟨W6.heap.size, 0, none⟩) 0 0) (.slice ba bl cb) (by simp [Act.eval]) (by simp [Act.eval]) _ _ (HA2.out _) ?_))
      go_at_call 7
      with_reducible refine HW2.out.mono ?_
      rintro e w8 (⟨rfl, HB⟩ | ⟨rfl, HB⟩)
      · have HS : Hid (S10 D fb mb data b pl g c false w8) := ⟨fun e => (by cases e), fun _ => (HSW.out.fr HB.out.2.1 HB.out.2.2).up (by omega)⟩
        clear HB HW2 HA2 HSW HF HOD HOB H1
        go_wp2_with fail
        go_meet
        exact ⟨false, rfl, HS⟩
      · by_cases hb0 : bl = 0
        · have HS : Hid (S10 D fb mb data b pl g c false w8) := ⟨fun e => (by cases e), fun _ => by
            have := HSW.out.fr HB.out.2.1 HB.out.2.2
            have hbn : b = [] := List.eq_nil_of_length_eq_zero (by rw [← HBE.out]; exact hb0)
            have e1 : wrD data pl.toNat b = data := by unfold wrD; rw [if_pos hbn]
            rw [e1] at this
            exact this⟩
          clear HB HW2 HA2 HSW HF HOD HOB H1 HBE
          subst hb0
          go_wp2_with fail
          go_meet
          exact ⟨false, rfl, HS⟩
        · have HS : Hid (S10 D fb mb data b pl g c true w8) := ⟨fun _ => ⟨by rw [← HBE.out]; exact HB.out.1, fun hbn => hb0 (by rw [HBE.out, hbn]; rfl), HSW.out.fr HB.out.2.1 HB.out.2.2⟩, fun e => (by cases e)⟩
          have hbi : 0 < bl := by omega
          have hbd := decide_eq_true hbi
          clear HB HW2 HA2 HSW HF HOD HOB H1 HBE
          go_wp2_with fail
          go_meet
          exact ⟨true, by first | rfl | rw [hbd], HS⟩
    case rest =>
    obtain ⟨B, rfl, HS10⟩ := hcut
    clear HSW
    go_upto_if 62 with fail
    go_cut [13] from 13 to 87 (fun v wr => ∃ g' c' d1, v = .slice (some ⟨g', 0, none⟩) (List.length d1) c' ∧ Hid (SW D fb mb d1 d1 g' c' 3 wr))
    case first =>
      cases B with
      | false =>
        have hS := HS10.out.2 rfl
        have HS := tHid hS
        clear HS10 hS HF HOD HOB
        go_wp2_with fail
        go_meet
        exact ⟨g, c, data, by rw [HDE.out], HS⟩
      | true =>
        obtain ⟨hnb, hbn, hS⟩ := HS10.out.1 rfl
        have hbp : 0 < bl := by rw [HBE.out]; exact List.length_pos_iff.2 hbn
        obtain ⟨A, hA⟩ : ∃ A : Nat, pl = (A : Int) := ⟨pl.toNat, by unfold wBad at hnb; omega⟩
        have hAB : A + bl ≤ 4194304 := by unfold wBad at hnb; rw [← HBE.out] at hnb; omega
        have eA : pl.toNat = A := by omega
        rw [eA] at hS
        have hd4 : dl ≤ 4194304 := by
          have := hS.1
          obtain ⟨T, _, h2, _⟩ := this
          rw [wrD_len, if_neg hbn, ← HDE.out] at h2
          omega
        obtain ⟨AB, hABe⟩ : ∃ AB, A + bl = AB := ⟨_, rfl⟩
        have zab : (A : Int) + (bl : Int) = (AB : Int) := by omega
        have zw : IntKind.i64.wrap (AB : Int) = (AB : Int) := by rw [IntKind.wrap_i64]; omega
        have HS := tHid hS
        have HBN := tHid hbn
        subst hA
        clear HS10 hS hnb hbn eA HF HOD
        have HC : Hid (∃ gb ob, ba = some ⟨gb, ob, none⟩ ∧ bl ≤ cb ∧ cb < 9223372036854775808 ∧ ∀ V, Nw w V → ∀ I (hI : I < b.length), V.cell? ⟨gb, ob + I, none⟩ = some (.int .u8 (b[I]'hI).toNat)) := by
          rcases HOB.out with ⟨a, e1, e2⟩ | ⟨gb, _, ob, c9, e1, e2, e3, e4⟩
          · exact absurd e2 HBN.out
          · injection e1 with e1 _ e5
            refine ⟨gb, ob, e1, by rw [e5, HBE.out]; exact e2, by rw [e5]; exact e3, fun V hV I hI => ?_⟩
            exact hV.cell (e4 I hI)
        obtain ⟨gb, ob, rfl, hcb1, hcb2, HBC0⟩ := HC.out
        have HBC := tHid HBC0
        clear HC HBC0 HOB
        go_wp2_with fail
        go_loopg [13] (AB - dl) (fun kx v wr2 => ∃ g' c' j : Nat, v = .slice (some ⟨g', 0, none⟩) (dl + j) c' ∧ dl + j ≤ max dl AB ∧ AB - (dl + j) ≤ kx ∧ Hid (SW D fb mb (wrD data A b) (data ++ List.replicate j 0#8) g' c' 3 wr2))
        case atStart => exact ⟨g, c, 0, rfl, by omega, by omega, HS.out.same (by simp)⟩
        case round =>
          obtain ⟨g', c', j, rfl, hj, hkx, HI⟩ := hrel
          obtain ⟨n1, hn1⟩ : ∃ n1, dl + j = n1 := ⟨_, rfl⟩
          have hln : (data ++ List.replicate j 0#8).length = n1 := by rw [List.length_append, List.length_replicate, ← HDE.out]; exact hn1
          by_cases hlt : n1 < AB
          · obtain ⟨g2, c2, W, HP, hS2⟩ := HI.out.push (by omega) 0#8
            rw [hln] at HP
            have HQ : Hid (∀ ty, (Builtin.append_ #[22, 22] ty #[.slice (some ⟨g', 0, none⟩) n1 c', .slice (some ⟨wr.heap.size, 0, none⟩) 1 1]).run Try.prog (wr.alloc (.cells #[.int .u8 0] 5)) = .ok (.slice (some ⟨g2, 0, none⟩) (n1 + 1) c2) W) := HP
            have HS2 : Hid (SW D fb mb (wrD data A b) (data ++ List.replicate (j + 1) 0#8) g2 c2 3 W) := hS2.same (by rw [List.append_assoc, List.replicate_succ'])
            have hlt2 : (n1 : Int) < (AB : Int) := by omega
            have hltd := decide_eq_true hlt2
            have hltn := decide_eq_true hlt
            rw [hn1]
            clear HI hS2 HS
            go_wp2_with (first
              | (at_builtin; refine Lib.wpList_append_run _ rfl _ _ 22 22 rfl (.slice (some ⟨g', 0, none⟩) n1 c') (.slice (some ⟨wr.heap.size, 0, none⟩) 1 1) (by simp [Act.eval]) (by simp [Act.eval]) _ _ (HQ.out _) ?_))
            go_roundg (AB - (dl + (j + 1)))
            case measure => omega
            case rel => exact ⟨g2, c2, j + 1, by rw [← hn1]; rfl, by omega, by omega, HS2⟩
          · have hlt2 : ¬ (n1 : Int) < (AB : Int) := by omega
            have hltd := decide_eq_false hlt2
            have hltn := decide_eq_false hlt
            have HMx := tHid (show n1 = max dl AB by omega)
            have hMl : AB ≤ n1 := by omega
            have eR : data ++ List.replicate j 0#8 = rszD data n1 := by rw [rsz_app, ← HDE.out, hn1]
            have HS0 : Hid (SW D fb mb (wrD data A b) (ovl (rszD data n1) A (b.take 0)) g' c' 3 wr) := HI.out.same (by
              rw [eR]; unfold ovl; simp)
            have hcap := HI.out.cap
            rw [hln] at hcap
            rw [hn1]
            clear HI HS hln eR hj hn1 hkx
            go_wp2_with fail
            go_loopg [14] bl (fun kx i wr2 => ∃ I : Nat, I ≤ bl ∧ bl - I ≤ kx ∧ i = .int .i64 I ∧ Hid (SW D fb mb (wrD data A b) (ovl (rszD data n1) A (b.take I)) g' c' 3 wr2))
            case atStart => exact ⟨0, by omega, by omega, rfl, HS0⟩
            case round =>
              obtain ⟨I, hI, hkx, rfl, HI⟩ := hrel
              have hlI : (ovl (rszD data n1) A (b.take I)).length = n1 := by
                rw [ovl_len _ _ _ (by rw [List.length_take, rszD_len, ← HBE.out]; omega), rszD_len]
              by_cases hlt3 : I < bl
              · have hIb : I < b.length := by rw [← HBE.out]; exact hlt3
                have hbc := HBC.out wr (H1.out.trans HI.out.1.nwD) I hIb
                obtain ⟨AI, hAI⟩ : ∃ AI, A + I = AI := ⟨_, rfl⟩
                obtain ⟨hS3, ⟨y, hy1⟩, hy2⟩ := HI.out.put AI (by rw [hlI]; omega) (b[I]'hIb)
                have HS3 : Hid (SW D fb mb (wrD data A b) (ovl (rszD data n1) A (b.take (I + 1))) g' c' 3 (wr.setCell ⟨g', AI, none⟩ (.int .u8 (b[I]'hIb).toNat))) := hS3.same (by
                  rw [← hAI]
                  exact ovl_set _ _ _ _ _ (by rw [rszD_len, ← HBE.out]; omega))
                have hlt4 : (I : Int) < (bl : Int) := by omega
                have hltd4 := decide_eq_true hlt4
                have hltn4 := decide_eq_true hlt3
                have zai : (A : Int) + (I : Int) = (AI : Int) := by omega
                have zwi : IntKind.i64.wrap (AI : Int) = (AI : Int) := by rw [IntKind.wrap_i64]; omega
                have zwj : IntKind.i64.wrap ((I : Int) + 1) = (I : Int) + 1 := by rw [IntKind.wrap_i64]; omega
                have hAIn : AI < n1 := by omega
                clear HI HS0 hS3 HBC H1 HDE HBE
                generalize (b[I]'hIb).toNat = bx at *
                go_wp2_with fail
                go_roundg (bl - (I + 1))
                case measure => omega
                case rel => exact ⟨I + 1, by omega, by omega, by first | rfl | (congr 1), HS3⟩
              · have hIe : I = bl := by omega
                have HS4 : Hid (SW D fb mb (wrD data A b) (wrD data A b) g' c' 3 wr) := HI.out.same (by
                  rw [hIe, HBE.out, List.take_length]
                  unfold wrD
                  rw [if_neg HBN.out, ← HDE.out, ← HBE.out, hABe, ← HMx.out])
                have hlw : (wrD data A b).length = n1 := by
                  rw [wrD_len, if_neg HBN.out, ← HDE.out, ← HBE.out, hABe, ← HMx.out]
                have hlt4 : ¬ (I : Int) < (bl : Int) := by omega
                have hltd4 := decide_eq_false hlt4
                have hltn4 := decide_eq_false hlt3
                clear HI HS0 HBC H1 HDE
                go_wp2_with fail
                go_meet
                exact ⟨g', c', wrD data A b, by rw [hlw], HS4⟩
    case rest =>
    obtain ⟨g1, c1, d1, rfl, HS1⟩ := hcut
    clear HS10 HOD HOB HDE HBE HDL HBL HPL
    obtain ⟨n1, hn1⟩ : ∃ n1, n1 = d1.length := ⟨_, rfl⟩
    have HN1 := tHid hn1
    rw [← hn1]
    clear hn1
    go_upto_region 17 with fail
    go_cut [92] (fun v wr => ∃ B, v = .bool B ∧ Hid (S17 D fb mb d1 size g1 c1 B wr))
    case first =>
      have CR := tHid (brsz_any HS1.out (by omega) size)
      clear HS1 HF H1
      go_wp2_with (first | (go_at_call 8; with_reducible refine CR.out.mono ?_; rintro e w9 (⟨rfl, HB⟩ | ⟨rfl, HB⟩)))
      · go_meet
        exact ⟨false, rfl, fun e => (by cases e), fun _ => HB.out.up (by omega)⟩
      · go_meet
        exact ⟨true, rfl, fun _ => HB.out, fun e => (by cases e)⟩
    case rest =>
    obtain ⟨B2, rfl, HS17⟩ := hcut
    have hn4 : n1 ≤ 4194304 := by
      obtain ⟨T, _, h2, _⟩ := HS1.out.1
      rw [HN1.out]; exact h2
    clear HS1
    go_upto_if 92 with fail
    go_cut [13] from 13 to 102 (fun v wr => ∃ g' c' d2, v = .slice (some ⟨g', 0, none⟩) (List.length d2) c' ∧ Hid (SW D fb mb d2 d2 g' c' 4 wr))
    case first =>
      cases B2 with
      | false =>
        have HS := tHid (HS17.out.2 rfl)
        clear HS17 HF H1
        go_wp2_with fail
        go_meet
        exact ⟨g1, c1, d1, by rw [HN1.out], HS⟩
      | true =>
        obtain ⟨hsb, hS⟩ := HS17.out.1 rfl
        obtain ⟨S, hSe⟩ : ∃ S : Nat, size = (S : Int) := ⟨size.toNat, by omega⟩
        have hS4 : S ≤ 4194304 := by omega
        have eS : size.toNat = S := by omega
        rw [eS] at hS
        have HS := tHid hS
        subst hSe
        clear HS17 hS hsb eS HF H1
        go_wp2_with fail
        go_loopg [13] (S - n1) (fun kx v wr2 => ∃ g' c' j : Nat, v = .slice (some ⟨g', 0, none⟩) (n1 + j) c' ∧ n1 + j ≤ max n1 S ∧ S - (n1 + j) ≤ kx ∧ Hid (SW D fb mb (rszD d1 S) (d1 ++ List.replicate j 0#8) g' c' 4 wr2))
        case atStart => exact ⟨g1, c1, 0, rfl, by omega, by omega, HS.out.same (by simp)⟩
        case round =>
          obtain ⟨g', c', j, rfl, hj, hkx, HI⟩ := hrel
          obtain ⟨n2, hn2⟩ : ∃ n2, n1 + j = n2 := ⟨_, rfl⟩
          have hln : (d1 ++ List.replicate j 0#8).length = n2 := by rw [List.length_append, List.length_replicate, ← HN1.out]; exact hn2
          by_cases hlt : n2 < S
          · obtain ⟨g2, c2, W, HP, hS2⟩ := HI.out.push (by omega) 0#8
            rw [hln] at HP
            have HQ : Hid (∀ ty, (Builtin.append_ #[22, 22] ty #[.slice (some ⟨g', 0, none⟩) n2 c', .slice (some ⟨wr.heap.size, 0, none⟩) 1 1]).run Try.prog (wr.alloc (.cells #[.int .u8 0] 5)) = .ok (.slice (some ⟨g2, 0, none⟩) (n2 + 1) c2) W) := HP
            have HS2 : Hid (SW D fb mb (rszD d1 S) (d1 ++ List.replicate (j + 1) 0#8) g2 c2 4 W) := hS2.same (by rw [List.append_assoc, List.replicate_succ'])
            have hlt2 : (n2 : Int) < (S : Int) := by omega
            have hltd := decide_eq_true hlt2
            have hltn := decide_eq_true hlt
            rw [hn2]
            clear HI hS2 HS
            go_wp2_with (first
              | (at_builtin; refine Lib.wpList_append_run _ rfl _ _ 22 22 rfl (.slice (some ⟨g', 0, none⟩) n2 c') (.slice (some ⟨wr.heap.size, 0, none⟩) 1 1) (by simp [Act.eval]) (by simp [Act.eval]) _ _ (HQ.out _) ?_))
            go_roundg (S - (n1 + (j + 1)))
            case measure => omega
            case rel => exact ⟨g2, c2, j + 1, by rw [← hn2]; rfl, by omega, by omega, HS2⟩
          · have hlt2 : ¬ (n2 : Int) < (S : Int) := by omega
            have hltd := decide_eq_false hlt2
            have hltn := decide_eq_false hlt
            have hcap := HI.out.cap
            rw [hln] at hcap
            obtain ⟨hcap1, hcap2⟩ := hcap
            have HS3 : Hid (SW D fb mb (rszD d1 S) (rszD d1 S) g' c' 4 wr) := (HI.out.cut S (by rw [hln]; omega)).same (rsz_cut d1 j S (by rw [← HN1.out]; omega) (by rw [← HN1.out]; omega))
            have zS : (S : Int) ≤ (c' : Int) := by omega
            have zS2 : S ≤ c' := by omega
            have zS3 : (0 : Int) ≤ (S : Int) := by omega
            rw [hn2]
            clear HI HS hln hj hn2 hkx
            go_wp2_with fail
            go_meet
            exact ⟨g', c', rszD d1 S, by rw [rszD_len], HS3⟩
    case rest =>
    obtain ⟨g2, c2, d2, rfl, HS2⟩ := hcut
    clear HS17 HN1 HSZ
    have CA := tHid (bread_any HS2.out)
    obtain ⟨n2, hn2⟩ : ∃ n2, n2 = d2.length := ⟨_, rfl⟩
    have HN2 := tHid hn2
    rw [← hn2] at CA ⊢
    clear hn2 HS2
    go_upto_region 22 with (first | (go_at_call 9; with_reducible refine CA.out.mono ?_; rintro e w9 ⟨a9, c9, rfl, H9⟩))
    clear CA
    have CB := tHid (bstat_any H9.out.2)
    rw [← HN2.out] at CB
    go_upto_region 23 with (first | (go_at_call 10; with_reducible refine CB.out.mono ?_; rintro e wA ⟨rfl, HA⟩))
    clear CB
    obtain ⟨V, hV⟩ : ∃ V, wA.alloc (.cells #[.int .i64 2, .int .i64 2, .int .u32 0, .int .u32 0, .int .u32 0, .int .i64 0, .int .i32 0, .int .i64 1, .int .i64 n2] 38) = V := ⟨_, rfl⟩
    have hN : Nw wA V := by rw [← hV]; exact (Fr.refl _ _).alloc _
    have s8 : V.cell? ⟨wA.heap.size, 8, none⟩ = some (.int .i64 n2) := by rw [← hV]; exact (rc (nh wA _) 8 _ rfl).1
    have hc1 : (convert 22 9 (.slice a9 n2 c9)).run Try.prog V = .ok (.string (str d2)) V := by
      exact conv_any ((H9.out.1.nw HA.out.2).nw hN)
    have hc2 : (convert 22 9 (.slice (some ⟨g2, 0, none⟩) n2 c2)).run Try.prog V = .ok (.string (str d2)) V := by
      have := conv_any (X := fun _ => False) (.inr ⟨g2, fun h => h, ((HA.out.1.nw hN).2.1).slb⟩)
      rw [← HN2.out] at this
      exact this
    have HF2 : Hid (∀ U, Nw V U → P (.returned (.bool true)) U) := fun U hU => HF.out U ((H1.out.trans (HA.out.1.nw hN).1.nwD).trans hU)
    rw [hV]
    clear hV hN HF H1 HA H9 HN2
    generalize str d2 = sx at *
    go_wp2_with fail
    exact HF2.out _ (Fr.refl _ _)
end Go.Proofs.Ytcogkhcfpgelhab
