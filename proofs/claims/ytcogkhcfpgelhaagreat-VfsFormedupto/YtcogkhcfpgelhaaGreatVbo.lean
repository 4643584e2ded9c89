import Derived.Test.YtcogkhcfpgelhaaGreatVbn
import Derived.Carry
import Derived.Deep.MidRow
namespace Go.Proofs.YtcogkhcfpgelhaaGreat
open Go.RowKit
set_option linter.unusedVariables false
set_option maxRecDepth 100000
/-! ### VfsFormed -/
set_option maxHeartbeats 16000000 in
theorem formed_walk (w : World) (X : Im) (l : List Nq) (a : Option Addr) (n c : Nat) (hl : l.map Nq.x = X.l) (hn : n = l.length) (hm : ImR (.slice a n c) l w) (hw : ∀ y ∈ l, NdW y.x) (hn9 : n ≤ 1000000000)
    (va : Option Addr) (N vc : Nat) (ops : List Oq) (hN : N = ops.length) (ho : InO (.slice va N vc) ops w) (ht : totE X.l + N ≤ 1000000) :
    Calls Tryz.prog 7 #[imV X (.slice a n c), .slice va N vc] w fun e w' => e = .returned (.bool true) ∧ Nw w w' := by
  obtain ⟨P, hP⟩ : ∃ P : Ending → World → Prop, P = fun e w' => e = .returned (.bool true) ∧ Nw w w' := ⟨_, rfl⟩
  rw [← hP]
  have HF : Hid (∀ V, Nw w V → P (.returned (.bool true)) V) := fun V hV => by rw [hP]; exact ⟨rfl, hV⟩
  obtain ⟨V, hV⟩ : ∃ V, V = w.alloc (.cells (ciC X (.slice a n c)) 37) := ⟨_, rfl⟩
  have hNV : Nw w V := by rw [hV]; exact (Fr.refl _ _).alloc _
  have HI : Hid (∀ U, Nw V U → U.cell? ⟨w.heap.size, 0, none⟩ = some (.int .i64 X.nodes) ∧ U.cell? ⟨w.heap.size, 1, none⟩ = some (.int .i64 X.bytes) ∧ U.cell? ⟨w.heap.size, 2, none⟩ = some (.int .i64 X.next) ∧ U.cell? ⟨w.heap.size, 3, none⟩ = some (.slice a n c)) := fun U hU => by
    have hr := hU.heap (show V.heap[w.heap.size]? = some (.cells (ciC X (.slice a n c)) 37) by rw [hV]; exact nh w _)
    exact ⟨(rc hr 0 _ rfl).1, (rc hr 1 _ rfl).1, (rc hr 2 _ rfl).1, (rc hr 3 _ rfl).1⟩
  have HLV : Hid (Calls Tryz.prog 16 #[] V fun e w' => e = .returned (.bool true) ∧ Hid (Nw V w')) := lives_any V
  have HLD : Hid (∀ U, Nw V U → Calls Tryz.prog 17 #[imV X (.slice a n c)] U fun e w' => ∃ fb, e = .returned (.pointer (some ⟨fb, 0, none⟩)) ∧ Hid (∃ X1, FmX w (totE X.l) fb 0 X1 w')) := fun U hU => by
    have hNU := hNV.trans hU
    refine Calls.mono (loaded_any X l a n c hl hn (hm.nw hNU) hw hn9) (fun e w' hh => ?_)
    obtain ⟨fb, mb, X', rfl, h1, L, h2, h3, h4⟩ := hh
    have := hNU.size
    exact ⟨fb, rfl, X', fm_start h1 (mb := mb) ⟨L, h2, hNU.trans h3, fun k hk => by have := h4 k hk; omega⟩ (Nat.le_refl _)⟩
  have HO := tHid ho
  have HNN := tHid hN
  obtain ⟨t0, ht0⟩ : ∃ t0, totE X.l = t0 := ⟨_, rfl⟩
  rw [ht0] at HLD ht
  have HT := tHid ht
  have hN6 : N ≤ 1000000 := by omega
  have HV := tHid hV
  clear hV hP hl hn hm hw hn9 hNV ho hN ht0 ht
  go_enter Tryz.func7, Tryz.ntmps7
  go_upto_region 1 with fail
  rw [← HV.out]
  clear HV
  go_upto_region 3 with (first | (go_at_call 16; with_reducible refine HLV.out.mono ?_; rintro e w1 ⟨rfl, H1⟩))
  obtain ⟨c0, c1, c2, c3⟩ := HI.out w1 H1.out
  have HL1 := tHid (HLD.out w1 H1.out)
  clear HLV HI HLD H1
  go_wp2_with (first | (go_at_call 17; with_reducible refine HL1.out.mono ?_; rintro e w2 ⟨fb, rfl, H2⟩))
  clear HL1 c0 c1 c2 c3
  go_loopg [6] N (fun kx i wr => ∃ I : Nat, I ≤ N ∧ N - I ≤ kx ∧ i = .int .i64 I ∧ Hid (∃ X1, FmX w t0 fb I X1 wr))
  case atStart => exact ⟨0, by omega, by omega, rfl, H2⟩
  case round =>
    clear H2
    obtain ⟨I, hI, hkx, rfl, HR⟩ := hrel
    by_cases hlt : I < N
    · have hIl : I < ops.length := by rw [← HNN.out]; exact hlt
      obtain ⟨X1, hX1⟩ := HR.out
      have hin := HO.out.nw hX1.n
      obtain ⟨g, o, rfl, hc⟩ := hin.at I hIl
      obtain ⟨y, hy⟩ : ∃ y, ops[I] = y := ⟨_, rfl⟩
      rw [hy] at hc
      have hry : OqR y wr := hin.2 y (by rw [← hy]; exact List.getElem_mem hIl)
      have HC := tHid (fm_calls hX1 (by have := HT.out; omega) hry)
      have HIM : Hid (∀ w3, Hid (∃ a b, a = (opR X1 y).n ∧ b = (opR X1 y).e ∧ FmX w t0 fb (I + 1) (opR X1 y).X w3) → ∃ X2 : Im, Calls Tryz.prog 19 #[.pointer (some ⟨fb, 0, none⟩)] w3 fun e w1 => ∃ a n c, e = .returned (imV X2 (.slice a n c)) ∧ Hid (FmJ w t0 fb (I + 1) X2 a n c w1)) := fun w3 h3 => by
        obtain ⟨_, _, _, _, h⟩ := h3.out
        exact ⟨_, fm_image h (by have := HT.out; omega)⟩
      obtain ⟨CL, hCL⟩ : ∃ CL : List Value, CL = (opC y).toList := ⟨_, rfl⟩
      have hra : wr.rangeAt g (o + I * 20) CL := fun j v hv => hc j v (by rw [hCL] at hv; simpa using hv)
      have hop : opC y = CL.toArray := by rw [hCL]
      have hsz : (Tryz.prog.info? 39).map (·.size) = some CL.length := by rw [hCL]; kernel_rfl
      rw [hop] at HC
      have HRA := tHid hra
      have HSZ := tHid hsz
      have hlt2 : (I : Int) < (N : Int) := by omega
      have hltd := decide_eq_true hlt2
      have hltn := decide_eq_true hlt
      have zwj : IntKind.i64.wrap ((I : Int) + 1) = (I : Int) + 1 := by rw [IntKind.wrap_i64]; omega
      clear hIl hX1 hin hc hy hry HR HO HF hCL hra hop hsz
      go_upto_region 10 with (first | (refine wpList_load_mid rfl 39 _ rfl g (o + I * 20) (by first | rfl | simp [Act.eval]) CL _ HRA.out Tryz.underlying39 rfl HSZ.out ?_) | (go_at_call 18; with_reducible refine HC.out.mono ?_; rintro e w3 ⟨ra, rb, rfl, H3⟩))
      clear HC HRA HSZ
      obtain ⟨X2, hIm⟩ := HIM.out w3 ⟨ra, rb, H3.out⟩
      have HM2 := tHid hIm
      clear hIm HIM H3
      go_upto_region 11 with (first | (go_at_call 19; with_reducible refine HM2.out.mono ?_; rintro e w4 ⟨a4, n4, c4, rfl, H4⟩))
      clear HM2
      obtain ⟨V5, hV5⟩ : ∃ V5, w4.alloc (.cells #[.int .i64 X2.nodes, .int .i64 X2.bytes, .int .i64 X2.next, .slice a4 n4 c4] 37) = V5 := ⟨_, rfl⟩
      have hN5 : Nw w4 V5 := by rw [← hV5]; exact (Fr.refl _ _).alloc _
      have hr5 : V5.heap[w4.heap.size]? = some (.cells #[.int .i64 X2.nodes, .int .i64 X2.bytes, .int .i64 X2.next, .slice a4 n4 c4] 37) := by rw [← hV5]; exact nh w4 _
      have hJ5 := H4.out.nw hN5
      have HFR := tHid (fm_free hJ5)
      have HR5 := tHid hr5
      have HJ5 := tHid hJ5
      rw [hV5]
      clear hV5 hN5 hr5 hJ5 H4
      go_upto_region 12 with (first | (go_at_call 20; with_reducible refine HFR.out.mono ?_; rintro e w6 ⟨rfl, H6⟩))
      clear HFR
      have hr6 := H6.out.heap HR5.out
      have hJ6 := HJ5.out.nw H6.out
      have d0 := (rc hr6 0 _ rfl).1
      have d1 := (rc hr6 1 _ rfl).1
      have d2 := (rc hr6 2 _ rfl).1
      have d3 := (rc hr6 3 _ rfl).1
      have HJ6 := tHid hJ6
      have hn4 := hJ6.len
      have hwf := hJ6.1.wf
      have hcn := wf_cnt hwf
      have hhe := wf_held hwf
      have hh0 := hwf.held
      have hb2 := hwf.b2
      have hb1 := hwf.b1
      have hn1 := hwf.n1
      have hn2 := hwf.n2
      have hln := hwf.len
      have HVA := tHid (fm_valid hJ6 (by have := HT.out; omega))
      generalize w4.heap.size = nb at *
      have zA : IntKind.i64.wrap (X2.nodes - (n4 : Int)) = X2.nodes - (n4 : Int) := by rw [IntKind.wrap_i64]; omega
      have zB : IntKind.i64.wrap (X2.bytes - (heldF X2.l : Int)) = X2.bytes - (heldF X2.l : Int) := by rw [IntKind.wrap_i64]; omega
      have lA : ¬ X2.nodes - (n4 : Int) < 0 := by omega
      have lB : ¬ X2.bytes - (heldF X2.l : Int) < 0 := by omega
      have lA' := decide_eq_false lA
      have lB' := decide_eq_false lB
      have hn41 : n4 ≤ 4096 := by omega
      have HH := tHid (show heldF X2.l ≤ 4194304 by omega)
      have HN4 := tHid hn4
      clear hr6 hJ6 hwf hcn hhe hh0 hb2 hb1 hn1 hn2 hln HR5 HJ5 H6 hn4
      go_wp2_with fail
      go_loopg [10, 11] n4 (fun kx s j wq => ∃ J : Nat, J ≤ n4 ∧ n4 - J ≤ kx ∧ s = .int .i64 (heldF (X2.l.take J) : Nat) ∧ j = .int .i64 J ∧ wq = w6)
      case atStart => exact ⟨0, by omega, by omega, rfl, rfl, rfl⟩
      case round =>
        obtain ⟨J, hJ, hkx2, rfl, rfl, rfl⟩ := hrel
        by_cases hj : J < n4
        · obtain ⟨g2, o2, y2, rfl, hx2, hd2, ⟨e0, e1, e2, e3, e4, e5, e6, e7, e8, e9⟩, hdc, hdc2⟩ := fm_at HJ6.out J hj
          have hht := held_take hx2
          have hle := held_le X2 (J + 1)
          have hl4 := HH.out
          obtain ⟨S, hS⟩ : ∃ S, heldF (X2.l.take J) = S := ⟨_, rfl⟩
          obtain ⟨S2, hS2⟩ : ∃ S2, heldF (X2.l.take (J + 1)) = S2 := ⟨_, rfl⟩
          rw [hS, hS2] at hht
          rw [hS2] at hle
          have hsw : IntKind.i64.wrap ((S : Int) + (y2.d.n : Int)) = (S2 : Int) := by
            rw [IntKind.wrap_i64]; omega
          have zwj2 : IntKind.i64.wrap ((J : Int) + 1) = (J : Int) + 1 := by rw [IntKind.wrap_i64]; omega
          have hlt4 : (J : Int) < (n4 : Int) := by omega
          have hltd4 := decide_eq_true hlt4
          have hltn4 := decide_eq_true hj
          have HS2 := tHid hS2
          rw [hS]
          clear hx2 hd2 e0 e1 e2 e3 e4 e5 e6 e8 e9 hht hle hl4 hS hS2 HVA HJ6 HH HN4
          go_wp2_with fail
          go_roundg (n4 - (J + 1))
          case measure => omega
          case rel => exact ⟨J + 1, by omega, by omega, by rw [HS2.out], by first | rfl | (congr 1), rfl⟩
        · have hJe : J = n4 := by omega
          have hlt4 : ¬ (J : Int) < (n4 : Int) := by omega
          have hltd4 := decide_eq_false hlt4
          have hltn4 := decide_eq_false hj
          have hful : heldF (X2.l.take J) = heldF X2.l := by rw [hJe, HN4.out, List.take_length]
          have HK : Hid (∀ w7, Hid (Nw wr w7) → (∃ X1, FmX w t0 fb (I + 1) X1 w7) ∧ w7.cell? ⟨nb, 0, none⟩ = some (.int .i64 X2.nodes) ∧ w7.cell? ⟨nb, 1, none⟩ = some (.int .i64 X2.bytes) ∧ w7.cell? ⟨nb, 3, none⟩ = some (.slice a4 n4 c4)) := fun w7 h7 => ⟨⟨X2, (HJ6.out.nw h7.out).1⟩, h7.out.cell d0, h7.out.cell d1, h7.out.cell d3⟩
          rw [hful]
          clear hful hJe HJ6 HH HN4
          go_wp2_with (first | (go_at_call 21; with_reducible refine HVA.out.mono ?_; rintro e w7 ⟨rfl, H7⟩; obtain ⟨HX7, k0, k1, k3⟩ := HK.out w7 H7))
          go_roundg (N - (I + 1))
          case measure => omega
          case rel => exact ⟨I + 1, by omega, by omega, by first | rfl | (congr 1), HX7⟩
    · have hlt2 : ¬ (I : Int) < (N : Int) := by omega
      have hltd := decide_eq_false hlt2
      have hltn := decide_eq_false hlt
      obtain ⟨X1, hX1⟩ := HR.out
      have HE := tHid (HF.out _ hX1.n)
      clear HR HO HF hX1
      go_wp2_with fail
      exact HE.out
end Go.Proofs.YtcogkhcfpgelhaaGreat
