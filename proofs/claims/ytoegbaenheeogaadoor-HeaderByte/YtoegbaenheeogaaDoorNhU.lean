import Derived.Test.YtoegbaenheeogaaDoorNhT
import Derived.Test.YtoegbaenheeogaaDoorNhP
import Derived.Laws.StructEq
namespace Go.Proofs.YtoegbaenheeogaaDoor
open Go.RowKit
set_option linter.unusedVariables false
/-! ### HeaderBack -/
/-- Decode, and its answer laid into a block. -/
theorem dec_blk (b : List By) (hb : b.length = 512) (V : World) : Calls Tryd.prog 6 #[.agg (rc b)] V fun e w2 => e = .returned (.tuple #[.agg (decH b).C, .int .i64 (decP b : Nat), .int .i64 (decE b : Nat)]) ∧ ∃ W3, (w2.alloc (.cells #[.int .i64 0, .string ⟨#[]⟩, .string ⟨#[]⟩, .int .i64 0, .int .i64 0, .int .i64 0, .int .i64 0, .int .i64 0, .int .u8 0, .string ⟨#[]⟩, .string ⟨#[]⟩, .string ⟨#[]⟩, .int .i64 0, .int .i64 0] 23)).setRow w2.heap.size (decH b).C = W3 ∧ Hid (HcH w2.heap.size (decH b) W3 ∧ Nw V W3 ∧ V.heap.size ≤ w2.heap.size) := by
  refine (decode_any b hb V).mono ?_
  rintro e w2 ⟨rfl, k⟩
  have hb2 : (w2.alloc (.cells hZ.C 23)).heap[w2.heap.size]? = some (.cells hZ.C 23) := newHeap _ _
  have hn : Nw w2 ((w2.alloc (.cells hZ.C 23)).setRow w2.heap.size (decH b).C) := ((Fr.refl _ _).alloc _).setRow _ _ (.inr (Nat.le_refl _))
  exact ⟨rfl, _, rfl, setRow_heap _ _ _ _ 23 _ hb2, k.trans hn, k.size⟩
set_option maxRecDepth 100000 in
theorem eql_hc (h : Hr) (w : World) : (binOp BinOp.eql 23 (.agg h.C) (.agg h.C)).run Tryd.prog w = .ok (.bool true) w := by
  have u2 := Tryd.underlying2
  have u3 := Tryd.underlying3
  have u5 := Tryd.underlying5
  have u9 := Tryd.underlying9
  have hS : Tryd.prog.underlying 23 = some (.struct (Tryd.prog.fieldsOf 23)) := by kernel_rfl
  have he : (Op.equalIn 10000 23 (.agg h.C) (.agg h.C)).run Tryd.prog w = .ok true w := by
    unfold Hr.C
    rw [show (10000 : Nat) = 9999 + 1 from rfl, run_equalIn_agg w 9999 23 _ _ hS (by kernel_rfl)]
    simp only [Program.fieldsOf, Tryd.underlying23]
    go_simp
  have he' : (Op.equalIn Op.maxDepth 23 (.agg h.C) (.agg h.C)).run Tryd.prog w = .ok true w := he
  simp [binOp, Op.equal, he']
def hTwo : Hr := ⟨2, ⟨#[97]⟩, ⟨#[112]⟩, 7, 0, 0, 0, 0, 53#8, eS, eS, eS, 0, 0⟩
theorem hTwo_ok : hTwo.Ok := by constructor <;> first | decide | (constructor <;> decide)
theorem hTwo_e : encE hTwo = 0 := by decide +kernel
theorem hb_cells (h : Hr) : h.C = h.C := rfl
set_option maxHeartbeats 4000000 in
set_option maxRecDepth 100000 in
theorem back_walk (h : Hr) (ok : h.Ok) (w : World) : Calls Tryd.prog 3 #[.agg h.C] w fun e w' => e = .returned (.bool true) ∧ Nw w w' := by
  obtain ⟨P, hP⟩ : ∃ P : Ending → World → Prop, P = fun e w' => e = .returned (.bool true) ∧ Nw w w' := ⟨_, rfl⟩
  rw [← hP]
  have HF : Hid (∀ W, Nw w W → P (.returned (.bool true)) W) := fun W hW => by rw [hP]; exact ⟨rfl, hW⟩
  clear hP
  obtain ⟨hb, hhb⟩ : ∃ hb, w.heap.size = hb := ⟨_, rfl⟩
  obtain ⟨W1, hW1⟩ : ∃ W1, w.alloc (.cells h.C 23) = W1 := ⟨_, rfl⟩
  have hN1 : Nw w W1 := by rw [← hW1]; exact (Fr.refl _ _).alloc _
  have hH1 : HcH hb h W1 := by rw [← hW1, ← hhb]; exact newHeap _ _
  have HL1 := tHid hH1
  have HSZ := tHid hcSize
  have HON := tHid hc_one
  have HEN := tHid (enc_blk h ok W1)
  have HZI := tHid (fun R hR => rz_facts R hR)
  have HRL := tHid (encR_length h ok)
  have HN1 := tHid hN1
  have HW1 := tHid hW1
  have heq := eql_hc h
  clear hW1 hN1 hH1
  skip
  by_cases hE : encE h = 0
  · obtain ⟨q1, q2, q3⟩ := back h ok hE
    have HDC : Hid (∀ V, Nw W1 V → Calls Tryd.prog 6 #[.agg (rc (encR h))] V fun e w2 => e = .returned (.tuple #[.agg h.C, .int .i64 0, .int .i64 0]) ∧ ∃ W3, (w2.alloc (.cells #[.int .i64 0, .string ⟨#[]⟩, .string ⟨#[]⟩, .int .i64 0, .int .i64 0, .int .i64 0, .int .i64 0, .int .i64 0, .int .u8 0, .string ⟨#[]⟩, .string ⟨#[]⟩, .string ⟨#[]⟩, .int .i64 0, .int .i64 0] 23)).setRow w2.heap.size h.C = W3 ∧ Hid (HcH w2.heap.size h W3 ∧ HcH hb h W3 ∧ Nw W1 W3)) := fun V hV => by
      have t := dec_blk (encR h) HRL.out V
      rw [q1, q2, q3] at t
      refine t.mono ?_
      rintro e w2 ⟨rfl, W3, e3, K⟩
      exact ⟨rfl, W3, e3, K.out.1, Nw.heap (hV.trans K.out.2.1) HL1.out, hV.trans K.out.2.1⟩
    rw [hE] at HEN
    clear q1 q2 q3 hE
    generalize hR : encR h = R at *
    have HRR := tHid hR
    clear hR
    generalize hM : h.C = M at *
    have HM := tHid hM
    go_enter Tryd.func3, Tryd.ntmps3
    go_upto_region 1 with fail
    rw [HW1.out]
    have HL1' : Hid (W1.heap[hb]? = some (.cells M 23)) := by rw [← HM.out]; exact HL1.out
    have HS1 : Hid ((Tryd.prog.info? 23).map (·.size) = some M.size) := by rw [← HM.out]; exact HSZ.out h
    have HO1 : Hid (M.all (·.oneCell') = true) := by rw [← HM.out]; exact HON.out h
    have HZ1 : Hid ((#[.int .i64 0, .string ⟨#[]⟩, .string ⟨#[]⟩, .int .i64 0, .int .i64 0, .int .i64 0, .int .i64 0, .int .i64 0, .int .u8 0, .string ⟨#[]⟩, .string ⟨#[]⟩, .string ⟨#[]⟩, .int .i64 0, .int .i64 0] : Array Value).size = M.size) := by rw [← HM.out]; rfl
    go_upto_region 3 with (first
      | (refine wpList_load_row rfl 23 _ rfl hb (by first | rfl | simp [Act.eval]) 23 _ (0, 0) _ HL1'.out Tryd.underlying23 rfl HS1.out ?_)
      | (go_at_call 5; with_reducible refine HEN.out.mono ?_; rintro e w2 ⟨rfl, W3, e3, K3⟩)
      | (refine wpList_store_row rfl 24 _ _ rfl w2.heap.size (rc R) (by first | rfl | simp [Act.eval]) (by first | rfl | simp [Act.eval]) 24 _ (newHeap w2 _) (HZI.out _ HRL.out).1 (HZI.out _ HRL.out).2.1 (HZI.out _ HRL.out).2.2 ?_; rw [e3]))
    have HRB : Hid (W3.heap[w2.heap.size]? = some (.cells (rc R) 24)) := by rw [← HRR.out]; exact K3.out.1.rec1
    have HDC2 := tHid (HDC.out W3 K3.out.1.nw)
    generalize w2.heap.size = rb at *
    clear e3 HEN HDC
    go_upto_region 4 with (first
      | (refine wpList_load_row rfl 24 _ rfl rb (by first | rfl | simp [Act.eval]) 24 _ (0, 0) _ HRB.out Tryd.underlying24 rfl (HZI.out _ HRL.out).1 ?_)
      | (go_at_call 6; with_reducible refine HDC2.out.mono ?_; rintro e w4 ⟨rfl, W5, e5, K5⟩)
      | (refine wpList_store_row rfl 23 _ _ rfl w4.heap.size M (by first | rfl | simp [Act.eval]) (by first | rfl | simp [Act.eval]) 23 _ (newHeap w4 _) HS1.out HZ1.out HO1.out ?_; rw [e5]))
    generalize w4.heap.size = db at *
    have HB5 : Hid (W5.heap[hb]? = some (.cells M 23)) := by rw [← HM.out]; exact K5.out.2.1
    have HD5 : Hid (W5.heap[db]? = some (.cells M 23)) := by rw [← HM.out]; exact K5.out.1
    clear e5 HDC2
    go_wp2_with (first
      | (refine wpList_load_row rfl 23 _ rfl _ (by rfl) 23 M (0, 0) _ (by first | exact HD5.out | exact HB5.out) Tryd.underlying23 rfl HS1.out ?_))
    exact HF.out _ (HN1.out.trans K5.out.2.2)
  · obtain ⟨q1, q2, q3⟩ := back hTwo hTwo_ok hTwo_e
    have HRL2 := tHid (encR_length hTwo hTwo_ok)
    have HEN2 : Hid (∀ V, Nw W1 V → Calls Tryd.prog 5 #[.agg #[.int .i64 2, .string ⟨#[97]⟩, .string ⟨#[112]⟩, .int .i64 7, .int .i64 0, .int .i64 0, .int .i64 0, .int .i64 0, .int .u8 53, .string ⟨#[]⟩, .string ⟨#[]⟩, .string ⟨#[]⟩, .int .i64 0, .int .i64 0]] V fun e w2 => e = .returned (.tuple #[.agg (rc (encR hTwo)), .int .i64 0]) ∧ ∃ W3, (w2.alloc (.cells Tryd.zeroCells24 24)).setRow w2.heap.size (rc (encR hTwo)) = W3 ∧ Hid (W3.heap[w2.heap.size]? = some (.cells (rc (encR hTwo)) 24) ∧ Nw W1 W3)) := fun V hV => by
      have t := enc_blk hTwo hTwo_ok V
      rw [hTwo_e] at t
      refine t.mono ?_
      rintro e w2 ⟨rfl, W3, e3, K⟩
      exact ⟨rfl, W3, e3, K.out.1.rec1, hV.trans K.out.1.nw⟩
    have HDC : Hid (∀ V, Nw W1 V → Calls Tryd.prog 6 #[.agg (rc (encR hTwo))] V fun e w2 => e = .returned (.tuple #[.agg hTwo.C, .int .i64 0, .int .i64 0]) ∧ ∃ W3, (w2.alloc (.cells #[.int .i64 0, .string ⟨#[]⟩, .string ⟨#[]⟩, .int .i64 0, .int .i64 0, .int .i64 0, .int .i64 0, .int .i64 0, .int .u8 0, .string ⟨#[]⟩, .string ⟨#[]⟩, .string ⟨#[]⟩, .int .i64 0, .int .i64 0] 23)).setRow w2.heap.size hTwo.C = W3 ∧ W3.cell? ⟨w2.heap.size, 2, none⟩ = some (.string ⟨#[112]⟩) ∧ W3.cell? ⟨w2.heap.size, 3, none⟩ = some (.int .i64 7) ∧ Hid (Nw W1 W3)) := fun V hV => by
      have t := dec_blk (encR hTwo) HRL2.out V
      rw [q1, q2, q3] at t
      refine t.mono ?_
      rintro e w2 ⟨rfl, W3, e3, K⟩
      exact ⟨rfl, W3, e3, cell_of K.out.1 2 _ rfl, cell_of K.out.1 3 _ rfl, hV.trans K.out.2.1⟩
    have hq : ((encE h : Int) == 0) = false := by rw [beq_eq_false_iff_ne]; omega
    have HZ2 : Hid ((#[.int .i64 0, .string ⟨#[]⟩, .string ⟨#[]⟩, .int .i64 0, .int .i64 0, .int .i64 0, .int .i64 0, .int .i64 0, .int .u8 0, .string ⟨#[]⟩, .string ⟨#[]⟩, .string ⟨#[]⟩, .int .i64 0, .int .i64 0] : Array Value).size = hTwo.C.size) := rfl
    clear q1 q2 q3 hE
    generalize encE h = E at *
    generalize hR : encR h = R at *
    clear hR
    generalize hR2 : encR hTwo = R2 at *
    clear hR2
    generalize hM : h.C = M at *
    have HM := tHid hM
    go_enter Tryd.func3, Tryd.ntmps3
    go_upto_region 1 with fail
    rw [HW1.out]
    have HL1' : Hid (W1.heap[hb]? = some (.cells M 23)) := by rw [← HM.out]; exact HL1.out
    have HS1 : Hid ((Tryd.prog.info? 23).map (·.size) = some M.size) := by rw [← HM.out]; exact HSZ.out h
    go_upto_region 5 with (first
      | (refine wpList_load_row rfl 23 _ rfl hb (by first | rfl | simp [Act.eval]) 23 _ (0, 0) _ HL1'.out Tryd.underlying23 rfl HS1.out ?_)
      | (go_at_call 5; with_reducible refine HEN.out.mono ?_; rintro e w2 ⟨rfl, W3, e3, K3⟩)
      | (refine wpList_store_row rfl 24 _ _ rfl w2.heap.size (rc R) (by first | rfl | simp [Act.eval]) (by first | rfl | simp [Act.eval]) 24 _ (newHeap w2 _) (HZI.out _ HRL.out).1 (HZI.out _ HRL.out).2.1 (HZI.out _ HRL.out).2.2 ?_; rw [e3]))
    have HE2 := tHid (HEN2.out W3 K3.out.1.nw)
    generalize w2.heap.size = rb at *
    clear e3 HEN HEN2
    go_upto_region 6 with (first
      | (go_at_call 5; with_reducible refine HE2.out.mono ?_; rintro e w4 ⟨rfl, W5, e5, K5⟩)
      | (refine wpList_store_row rfl 24 _ _ rfl w4.heap.size (rc R2) (by first | rfl | simp [Act.eval]) (by first | rfl | simp [Act.eval]) 24 _ (newHeap w4 _) (HZI.out _ HRL2.out).1 (HZI.out _ HRL2.out).2.1 (HZI.out _ HRL2.out).2.2 ?_; rw [e5]))
    have HR5 := tHid K5.out.1
    have HD5 := tHid (HDC.out W5 K5.out.2)
    generalize w4.heap.size = rb2 at *
    clear e5 HE2 HDC
    go_upto_region 7 with (first
      | (refine wpList_load_row rfl 24 _ rfl rb2 (by first | rfl | simp [Act.eval]) 24 _ (0, 0) _ HR5.out Tryd.underlying24 rfl (HZI.out _ HRL2.out).1 ?_)
      | (go_at_call 6; with_reducible refine HD5.out.mono ?_; rintro e w6 ⟨rfl, W7, e7, p2, p3, K7⟩)
      | (refine wpList_store_row rfl 23 _ _ rfl w6.heap.size hTwo.C (by first | rfl | simp [Act.eval]) (by first | rfl | simp [Act.eval]) 23 _ (newHeap w6 _) (HSZ.out hTwo) HZ2.out (HON.out hTwo) ?_; rw [e7]))
    generalize w6.heap.size = db at *
    have hb1 : ((⟨#[112]⟩ : ByteArray).toList == (⟨#[112]⟩ : ByteArray).toList) = true := by simp
    go_wp2_with fail
    exact HF.out _ (HN1.out.trans K7.out)
end Go.Proofs.YtoegbaenheeogaaDoor
