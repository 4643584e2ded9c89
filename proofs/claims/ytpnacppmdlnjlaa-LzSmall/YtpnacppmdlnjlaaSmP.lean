import Derived.Test.YtpnacppmdlnjlaaRows
import Derived.Test.YtpnacppmdlnjlaaSmA
import Derived.Test.YtpnacppmdlnjlaaLzOp
namespace Go.Proofs.Ytpnacppmdlnjlaa
namespace lzSmall
open Go.ChangeShapes Go.WideShapes Go.ChangeAt Go.RowKit Go.Deep
set_option linter.unusedVariables false
set_option maxHeartbeats 40000000 in
set_option maxRecDepth 100000 in
theorem walk (w : World) (x : By) (n : Int) :
    Calls Try.prog 8 #[.int .u8 x.toNat, .int .i64 n] w fun e w' => e = .returned (.bool true) ∧ Nw w w' := by
  obtain ⟨P, hP⟩ : ∃ P : Ending → World → Prop, P = fun e w' => e = .returned (.bool true) ∧ Nw w w' := ⟨_, rfl⟩
  rw [← hP]
  have HP : Hid (P = fun e w' => e = .returned (.bool true) ∧ Nw w w') := hP
  clear hP
  by_cases hr : n < 64 ∨ 4194304 < n
  · have HB1 : Hid (Calls Try.prog 26 #[.int .i64 n] w fun e w' => e = .returned (.int .i64 (bnd n)) ∧ w = w') := (bound_any w n).mono (fun e w' ⟨h1, h2⟩ => ⟨h1, h2.symm⟩)
    have HB2 : Hid (Calls Try.prog 25 #[.int .i64 n] w fun e w' => e = .returned (.int .i64 (bnd n)) ∧ w = w') := (rbound_any w n).mono (fun e w' ⟨h1, h2⟩ => ⟨h1, h2.symm⟩)
    have HF : Hid (P (.returned (.bool true)) w) := by show P _ _; rw [HP.out]; exact ⟨rfl, Fr.refl _ _⟩
    clear HP
    generalize bnd n = bb at *
    rcases hr with hr | hr
    · go_enter Try.func8, Try.ntmps8
      go_wp2_with (first
        | (go_at_call 26; with_reducible refine (HB1.out).mono ?_; rintro e w1 ⟨rfl, rfl⟩)
        | (go_at_call 25; with_reducible refine (HB2.out).mono ?_; rintro e w2 ⟨rfl, rfl⟩))
      exact HF.out
    · have h0 : ¬ n < 64 := by omega
      go_enter Try.func8, Try.ntmps8
      go_wp2_with (first
        | (go_at_call 26; with_reducible refine (HB1.out).mono ?_; rintro e w1 ⟨rfl, rfl⟩)
        | (go_at_call 25; with_reducible refine (HB2.out).mono ?_; rintro e w2 ⟨rfl, rfl⟩))
      exact HF.out
  · obtain ⟨N, rfl⟩ : ∃ N : Nat, n = N := ⟨n.toNat, by omega⟩
    have hN1 : 64 ≤ N := by omega
    have hN2 : N ≤ 4194304 := by omega
    have hz0 : ¬ (N : Int) < 64 := by omega
    have hz1 : ¬ (4194304 : Int) < (N : Int) := by omega
    obtain ⟨W, hmk, hO, hNW⟩ := made_any w N (by omega)
    have HI0 : Hid (Ow w.heap.size (.slice (some ⟨w.heap.size, 0, none⟩) N N) (List.replicate 0 x ++ List.replicate (N - 0) 0#8) W ∧ Nw w W) := ⟨hO, hNW⟩
    have HE : Hid (∀ V, Ow w.heap.size (.slice (some ⟨w.heap.size, 0, none⟩) N N) (List.replicate N x) V → Nw w V → Calls Try.prog 23 #[.slice (some ⟨w.heap.size, 0, none⟩) N N, .slice none 0 0] V fun e w3 => ∃ a3 bl c3, e = .returned (.tuple #[.slice a3 bl c3, .int .i64 0]) ∧ 0 < bl ∧ bl ≤ 32 + N / 200 ∧ Hid (P (.returned (.bool true)) w3)) := fun V hV hNV => by
      have hold : Old V (.slice (some ⟨w.heap.size, 0, none⟩) N N) (List.replicate N x) := hV.old
      have hlen : (List.replicate N x).length = N := by simp
      refine (Encode_any V _ _ (List.replicate N x) [] hold (.inl ⟨none, rfl, rfl⟩) (by rw [hlen]; exact hN2) (by simp)).mono ?_
      rintro e w3 ⟨a3, c3, b, rfl, hB, hM, hN3⟩
      obtain ⟨k1, k2⟩ := small_len x N hN1 b hB
      refine ⟨a3, b.length, c3, rfl, k1, k2, ?_⟩
      show P _ _
      rw [HP.out]
      exact ⟨rfl, hNV.trans hN3⟩
    have hxl := x.isLt
    clear HP hO hNW hr
    go_enter Try.func8, Try.ntmps8
    go_wp2
    generalize hg : w.heap.size = g at *
    go_loopg [6] (N + 1) (fun kx i wr => ∃ I : Nat, I ≤ N ∧ N + 1 - I ≤ kx ∧ i = .int .i64 I ∧ Hid (Ow g (.slice (some ⟨g, 0, none⟩) N N) (List.replicate I x ++ List.replicate (N - I) 0#8) wr ∧ Nw w wr))
    case atStart => exact ⟨0, by omega, by omega, rfl, HI0⟩
    case round =>
      obtain ⟨I, hI, hkx, rfl, HI⟩ := hrel
      clear HI0
      obtain ⟨hOw, hNw⟩ := HI.out
      by_cases hlt : I < N
      · obtain ⟨p1, p2⟩ := hOw.at I (by simp; omega)
        have HN : Hid (Ow g (.slice (some ⟨g, 0, none⟩) N N) (List.replicate (I + 1) x ++ List.replicate (N - (I + 1)) 0#8) (wr.setCell ⟨g, I, none⟩ (.int .u8 x.toNat)) ∧ Nw w (wr.setCell ⟨g, I, none⟩ (.int .u8 x.toNat))) := by
          have := hOw.put I (by simp; omega) x x.toNat rfl
          rw [rep_set x N I hlt] at this
          exact ⟨this, hNw.setCell _ _ (.inr (by show w.heap.size ≤ g; omega))⟩
        have hz : (I : Int) < (N : Int) := by omega
        clear HI hOw hNw HE
        generalize ((List.replicate I x ++ List.replicate (N - I) 0#8)[I]'(by simp; omega)).toNat = y at *
        generalize x.toNat = xx at *
        go_wp2
        go_roundg (N + 1 - (I + 1))
        all_goals (first | omega | exact ⟨I + 1, by omega, by omega, by first | rfl | (congr 1), HN⟩)
      · obtain rfl : I = N := by omega
        rw [Nat.sub_self, List.replicate_zero, List.append_nil] at hOw
        have HC : Hid (Calls Try.prog 23 #[.slice (some ⟨g, 0, none⟩) I I, .slice none 0 0] wr fun e w3 => ∃ a3 bl c3, e = .returned (.tuple #[.slice a3 bl c3, .int .i64 0]) ∧ 0 < bl ∧ bl ≤ 32 + I / 200 ∧ Hid (P (.returned (.bool true)) w3)) := HE.out wr hOw hNw
        have hz : ¬ (I : Int) < (I : Int) := by omega
        have hq : Int.tdiv (I : Int) 200 = ((I / 200 : Nat) : Int) := rfl
        have hql : I / 200 ≤ 4194304 := by omega
        clear HI hOw hNw HE hlt
        generalize I / 200 = qq at *
        go_wp2_with (first
          | (go_at_call 23; with_reducible refine (HC.out).mono ?_; rintro e w3 ⟨a3, bl, c3, rfl, hb1, hb2, HF⟩; have hy1 : (0 : Int) < (bl : Int) := (by omega); have hy2 : (bl : Int) ≤ 32 + (qq : Int) := (by omega); have hy3 : decide ((0 : Int) < (bl : Int)) = true := decide_eq_true hy1; have hy4 : decide ((bl : Int) ≤ 32 + (qq : Int)) = true := decide_eq_true hy2))
        exact HF.out
set_option maxRecDepth 100000 in
theorem lifted (os : Os) (started : os.Started) (H : Type) (enc : TypeId × Value → H) :
    ReturnsInHanded {} Try.checked os 8 .any (Rows.lzSmallSpec.pre6 enc Try.prog Try.f8 Rows.lzSmallRow.domain false) (Rows.lzSmallSpec.post enc Try.prog Try.f8 false true false false) := by
  refine returnsInHanded_of_change_sized (C := Try.checked) own started (by kernel_rfl) Try.func8
    (ChangeSpec.witness6 (enc := enc) (C := Try.checked) false ⟨#[], #[.int .u8 0, .int .i64 0], []⟩ 8 (by kernel_rfl) (by kernel_rfl) (by kernel_rfl) (by kernel_rfl)) ?_
  intro W base args ds gs before hval0 hW hcnd hsz0 _
  have hval : ∀ (j : Nat) t v, Try.f8.params[j]? = some t → args[j]? = some v → Value.okWide Try.prog W .any base t v := hval0
  have hW' := hW
  obtain ⟨p, q, hA0, hV, rfl, hfz, hnd⟩ := hW
  have hA : DataW.TrodAll enc Try.prog W 0 (fun _ => true) true Try.f8.params.toList args.toList ds p := hA0
  have hsz : (DataW.weightsEach Try.prog (Try.f8.params.toList ++ Rows.lzSmallSpec.plain.varTypes Try.prog) (ds ++ gs)).all (· ≤ reachBytes) = true := hsz0
  rw [Try.params8] at hA hval hsz
  obtain ⟨v0, vs0, d0, ds0, p0, q0, hargs, rfl, rfl, h0, r0⟩ := trodAll_cons hA
  obtain ⟨v1, vs1, d1, ds1, p1, q1, rfl, rfl, rfl, h1, r1⟩ := trodAll_cons r0
  obtain ⟨rfl, rfl, rfl⟩ := trodAll_nil r1
  obtain rfl : args = #[v0, v1] := by cases args; simp_all
  obtain ⟨rfl, rfl⟩ := trodVars_none hV
  obtain ⟨a0, rfl, rfl, rfl, w0⟩ := open_int Try.underlying5 (hval 0 5 v0 rfl rfl) h0
  obtain ⟨a1, rfl, rfl, rfl, w1⟩ := open_int Try.underlying3 (hval 1 3 v1 rfl rfl) h1
  have hb0 := byte_of w0
  have hw := walk W (BitVec.ofNat 8 a0.toNat) a1
  rw [← hb0] at hw
  refine hw.mono fun e W' ⟨he, hN⟩ => ?_
  subst he
  have bel : Below W.heap.size W W' := Fr.below (Below.refl _ _) hN (Nat.le_refl _) (fun i h => h.elim)
  exact ⟨_, rfl, _, _, _, [], _, [], hW', trodAll_mk1 (shut_bool Try.underlying4 _), (trodAll_cons_mk (shut_int Try.underlying5 w0) (trodAll_cons_mk (shut_int Try.underlying3 w1) trodAll_mk0)), rfl, bel.frame _, fun h => by cases h⟩

theorem over : Rows.lzSmallRow.holds Try.pinned (OpenSpec.ofChange Rows.lzSmallSpec) :=
  OpenClaim.holds_of_wide 8 Try.f8 rfl rfl rfl rfl rfl rfl rfl ⟨rfl, rfl, rfl, rfl, rfl⟩ rfl rfl rfl rfl rfl (by kernel_rfl) Try.func8 (by kernel_rfl)
    (of_decide_eq_true (by kernel_rfl)) (by unfold Func.isWrapper; first | (rw [if_pos (by decide +kernel)]; kernel_rfl) | (rw [if_neg (by decide +kernel)]; exact ⟨rfl, rfl⟩))
    (fun os started H enc _ => lifted os started H enc)
end lzSmall
/-- THE STATEMENT -/
theorem lzSmall_holds : Rows.LzSmallSaid :=
  lzSmall.over
#print axioms lzSmall_holds
end Go.Proofs.Ytpnacppmdlnjlaa
