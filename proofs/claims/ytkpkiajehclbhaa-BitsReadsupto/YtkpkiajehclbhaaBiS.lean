import Derived.Test.YtkpkiajehclbhaaBiR
namespace Go.Proofs.Ytkpkiajehclbhaa
open Go.RowKit
set_option linter.unusedVariables false
set_option maxHeartbeats 16000000 in
set_option maxRecDepth 100000 in
/-- BitsReads. -/
theorem rs_walk (w : World) (vb : Value) (b : List By) (hb : Old w vb b) (hbl : b.length ≤ 1000000000) (vo : Value) (l : List Opn) (hl : OldO w vo l) (hll : l.length ≤ 1000000000) : Calls Try.prog 3 #[vb, vo] w fun e w' => e = .returned (.bool true) ∧ Nw w w' := by
  obtain ⟨P, hP⟩ : ∃ P : Ending → World → Prop, P = fun e w' => e = .returned (.bool true) ∧ Nw w w' := ⟨_, rfl⟩
  rw [← hP]
  have HC := rs_start w vb b hb hbl
  have HB : Hid (Old w vb b) := hb
  have HL : Hid (OldO w vo l) := hl
  have HF : Hid (∀ W, Nw w W → P (.returned (.bool true)) W) := fun W hW => by rw [hP]; exact ⟨rfl, hW⟩
  obtain ⟨ab, cb, rfl, hcb, hcb2⟩ := hb.form
  obtain ⟨ao, co, rfl, hco, hco2, _⟩ := hl
  have hnil : ∀ (g : Nat) (w : World), (binOp BinOp.eql 26 (.pointer (some ⟨g, 0, none⟩)) (.pointer none)).run Try.prog w = .ok (.bool false) w := fun _ _ => by kernel_rfl
  clear hP hb
  have hbn : Hid (Old w (.slice ab b.length cb) b) := HB.out
  clear HB
  generalize hL : b.length = L at *
  generalize hM : l.length = M at *
  have hL' : Hid (b.length = L) := hL
  have hM' : Hid (l.length = M) := hM
  clear hL hM
  go_enter Try.func3, Try.ntmps3
  go_upto_region 6 with (first | (go_at_call 9; (with_reducible refine HC.out.mono ?_); rintro e w1 ⟨gc, cc, rfl, H1⟩) | (go_at_call 10; (with_reducible refine H1.out.mono ?_); rintro e w2 ⟨rb1, rfl, H2⟩) | (go_at_call 11; (with_reducible refine H2.out.mono ?_); rintro e w3 ⟨gl, cl, N, rfl, H3⟩))
  obtain ⟨D1, D2, vl, hI⟩ := H3.out
  have HI0 : Hid (∃ p, RsI w D1 D2 gc cc rb1 w3.heap.size vl b p (w3.alloc (.cells #[.slice (some ⟨gl, 0, none⟩) N cl, .int .i64 0] 31))) := ⟨0, hI⟩
  clear hI HC H1 H2 H3
  generalize w3.alloc (.cells #[.slice (some ⟨gl, 0, none⟩) N cl, .int .i64 0] 31) = w4 at *
  generalize w3.heap.size = rb2 at *
  go_wp2_with fail
  go_loopg [9] M (fun kx i wr => ∃ (I : Nat), I ≤ M ∧ M - I ≤ kx ∧ i = .int .i64 I ∧ Hid (∃ p, RsI w D1 D2 gc cc rb1 rb2 vl b p wr))
  case atStart => exact ⟨0, by omega, by omega, rfl, HI0⟩
  case round =>
    obtain ⟨I, hI, hkx, rfl, HI⟩ := hrel
    clear HI0
    obtain ⟨p, hR⟩ := HI.out
    have hN0 := hR.nw
    by_cases hlt : I < M
    · obtain ⟨go, oo, t, rfl, ht, _, hop⟩ := HL.out.at I hlt
      have HO : Hid (OpC w go oo I t) := hop
      have HO2 : Hid (∀ V, Nw w V → V.cell? ⟨go, oo + I * 4 + 1, none⟩ = some (.int .i64 t.n)) := fun V hV => (hop.nw hV).c1
      have y0 := (HO.out.nw hN0).c0
      have y1 := (HO.out.nw hN0).c1
      have hnhi := HO.out.nhi
      have hz : (I : Int) < (M : Int) := by omega
      clear hop ht
      by_cases hk0 : t.kind = 0
      · obtain ⟨x, er, p', HT⟩ := hR.take t.n
        rw [hk0] at y0
        clear HI hR
        generalize t.n = n at *
        go_upto_region 24 with (first | (go_at_call 12; (with_reducible refine HT.out.mono ?_); rintro e w5 ⟨rfl, H5, H6⟩; have y2 := HO2.out _ H5.out) | (go_at_call 13; (with_reducible refine H6.out.mono ?_); rintro e w6 ⟨rfl, H7⟩))
        obtain ⟨q, HQ⟩ := (H7).out.left _ hbn.out
        rw [hL'.out] at HQ
        clear HL hbn
        go_wp2_with (first | (go_at_call 20; (with_reducible refine HQ.out.mono ?_); rintro e v1 ⟨rfl, G1⟩) | (go_at_call 21; (with_reducible refine G1.out.mono ?_); rintro e v2 ⟨rfl, G2, G3⟩) | (go_at_call 22; (with_reducible refine G3.out.mono ?_); rintro e v3 ⟨rfl, G4⟩))
        go_roundg (M - (I + 1))
        case measure => omega
        case rel => exact ⟨I + 1, by omega, by omega, by first | rfl | (congr 1), ⟨_, G4.out⟩⟩
      by_cases hk1 : t.kind = 1
      · obtain ⟨p', HT⟩ := hR.align
        rw [hk1] at y0
        clear HI hR
        generalize t.n = n at *
        go_upto_region 24 with (first | (go_at_call 14; (with_reducible refine HT.out.mono ?_); rintro e w5 ⟨⟨r5, rfl⟩, H6⟩) | (go_at_call 15; (with_reducible refine H6.out.mono ?_); rintro e w6 ⟨⟨r6, rfl⟩, H7⟩))
        obtain ⟨q, HQ⟩ := (H7).out.left _ hbn.out
        rw [hL'.out] at HQ
        clear HL hbn
        go_wp2_with (first | (go_at_call 20; (with_reducible refine HQ.out.mono ?_); rintro e v1 ⟨rfl, G1⟩) | (go_at_call 21; (with_reducible refine G1.out.mono ?_); rintro e v2 ⟨rfl, G2, G3⟩) | (go_at_call 22; (with_reducible refine G3.out.mono ?_); rintro e v3 ⟨rfl, G4⟩))
        go_roundg (M - (I + 1))
        case measure => omega
        case rel => exact ⟨I + 1, by omega, by omega, by first | rfl | (congr 1), ⟨_, G4.out⟩⟩
      by_cases hk2 : t.kind = 2
      · obtain ⟨er, p', HT⟩ := hR.bytes t.n hnhi
        rw [hk2] at y0
        clear HI hR
        generalize t.n = n at *
        go_upto_region 24 with (first | (go_at_call 16; (with_reducible refine HT.out.mono ?_); rintro e w5 ⟨x, rfl, H5, H6⟩; have y2 := HO2.out _ H5.out) | (go_at_call 17; (with_reducible refine H6.out.mono ?_); rintro e w6 ⟨y, rfl, H8⟩) | (go_at_call 18; (with_reducible refine H8.out.mono ?_); rintro e w7 ⟨rfl, H9⟩) | (go_at_call 19; (with_reducible refine H9.out.mono ?_); rintro e w8 ⟨⟨r8, rfl⟩, H7⟩))
        obtain ⟨q, HQ⟩ := (H7).out.left _ hbn.out
        rw [hL'.out] at HQ
        clear HL hbn
        go_wp2_with (first | (go_at_call 20; (with_reducible refine HQ.out.mono ?_); rintro e v1 ⟨rfl, G1⟩) | (go_at_call 21; (with_reducible refine G1.out.mono ?_); rintro e v2 ⟨rfl, G2, G3⟩) | (go_at_call 22; (with_reducible refine G3.out.mono ?_); rintro e v3 ⟨rfl, G4⟩))
        go_roundg (M - (I + 1))
        case measure => omega
        case rel => exact ⟨I + 1, by omega, by omega, by first | rfl | (congr 1), ⟨_, G4.out⟩⟩
      · have HR : Hid (RsI w D1 D2 gc cc rb1 rb2 vl b p wr) := hR
        clear HI hR
        generalize t.kind = kd at *
        generalize t.n = n at *
        go_upto_region 24 with fail
        obtain ⟨q, HQ⟩ := (HR).out.left _ hbn.out
        rw [hL'.out] at HQ
        clear HL hbn
        go_wp2_with (first | (go_at_call 20; (with_reducible refine HQ.out.mono ?_); rintro e v1 ⟨rfl, G1⟩) | (go_at_call 21; (with_reducible refine G1.out.mono ?_); rintro e v2 ⟨rfl, G2, G3⟩) | (go_at_call 22; (with_reducible refine G3.out.mono ?_); rintro e v3 ⟨rfl, G4⟩))
        go_roundg (M - (I + 1))
        case measure => omega
        case rel => exact ⟨I + 1, by omega, by omega, by first | rfl | (congr 1), ⟨_, G4.out⟩⟩
    · obtain ⟨q, HQ⟩ := hR.left _ hbn.out
      have hz : ¬ (I : Int) < (M : Int) := by omega
      clear HI hR hbn HL
      go_wp2_with (first | (go_at_call 20; (with_reducible refine HQ.out.mono ?_); rintro e w5 ⟨rfl, H5⟩) | (go_at_call 21; (with_reducible refine H5.out.mono ?_); rintro e w6 ⟨rfl, H6, _⟩))
      exact HF.out _ H6.out
end Go.Proofs.Ytkpkiajehclbhaa
