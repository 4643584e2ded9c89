import Derived.Test.YtoegbaenheeogaaGreatDoorNhZ
import Derived.Test.YtoegbaenheeogaaGreatDoorNhP
import Derived.Laws.StructEq
namespace Go.Proofs.YtoegbaenheeogaaGreatDoor
open Go.RowKit
set_option linter.unusedVariables false
/-! ### The law's record of bytes -/
def recB (l : List By) (I : Nat) : List By := l.take I ++ List.replicate (512 - I) 0#8
theorem recB_length (l : List By) (I : Nat) (h1 : I ≤ l.length) (h2 : I ≤ 512) : (recB l I).length = 512 := by
  unfold recB
  rw [List.length_append, List.length_take, List.length_replicate]; omega
theorem recB_set (l : List By) (I : Nat) (h1 : I < l.length) (h2 : I < 512) : (recB l I).set I l[I] = recB l (I + 1) := by
  unfold recB
  have e : 512 - I = (512 - (I + 1)) + 1 := by omega
  have hl : (l.take I).length = I := by rw [List.length_take]; omega
  rw [e, List.replicate_succ]
  have := set_mid 0#8 l[I] (l.take I) (List.replicate (512 - (I + 1)) 0#8)
  rw [hl] at this
  rw [this, take_snoc l I h1, List.append_assoc]
  rfl
theorem recB_zero (l : List By) : recB l 0 = zrec := by unfold recB zrec; rw [List.take_zero, List.nil_append]
def recOf (l : List By) : List By := recB l (min l.length 512)
theorem recOf_length (l : List By) : (recOf l).length = 512 := recB_length l _ (by omega) (by omega)
set_option maxHeartbeats 4000000 in
set_option maxRecDepth 100000 in
theorem record13_any (w : World) (a : Option Addr) (c : Nat) (l : List By) (hl : Old w (.slice a l.length c) l) (hbig : l.length ≤ 140737488351232) : Calls Tryz.prog 5 #[.slice a l.length c] w fun e w' => e = .returned (.agg (rc (recOf l))) ∧ Nw w w' := by
  obtain ⟨P, hP⟩ : ∃ P : Ending → World → Prop, P = fun e w' => e = .returned (.agg (rc (recOf l))) ∧ Nw w w' := ⟨_, rfl⟩
  rw [← hP]
  have HF : Hid (∀ W, Nw w W → P (.returned (.agg (rc (recOf l)))) W) := fun W hW => by rw [hP]; exact ⟨rfl, hW⟩
  clear hP
  obtain ⟨qb, hqb⟩ : ∃ qb, w.heap.size = qb := ⟨_, rfl⟩
  obtain ⟨rb, hrb⟩ : ∃ rb, qb + 1 = rb := ⟨_, rfl⟩
  obtain ⟨W0, hW0⟩ : ∃ W0, w.alloc (.cells Tryz.zeroCells28 28) = W0 := ⟨_, rfl⟩
  have s1 : (w.alloc (.cells Tryz.zeroCells28 28)).heap.size = w.heap.size + 1 := by simp
  have hQ0 : RcH qb zrec W0 := by rw [← hW0, ← hqb]; unfold RcH; rw [← zrec_rc]; exact newHeap _ _
  obtain ⟨W1, hW1⟩ : ∃ W1, (W0.alloc (.cells Tryz.zeroCells28 28)).setRow rb (rc zrec) = W1 := ⟨_, rfl⟩
  have hsz : W0.heap.size = rb := by rw [← hW0, s1, hqb]; exact hrb
  have hb0 : (W0.alloc (.cells Tryz.zeroCells28 28)).heap[rb]? = some (.cells Tryz.zeroCells28 28) := by rw [← hsz]; exact newHeap _ _
  have hR1 : RcH rb zrec W1 := by rw [← hW1]; exact setRow_heap _ _ _ _ 28 _ hb0
  have k1 : Nw W0 W1 := by rw [← hW1]; exact ((Fr.refl _ _).alloc _).setRow _ _ (.inr (by omega))
  have hN0 : Nw w W0 := by rw [← hW0]; exact (Fr.refl _ _).alloc _
  have HQ1 : Hid (RcH qb zrec W1) := hQ0.kept k1 (fun h => h)
  have HN1 : Hid (Nw w W1) := hN0.trans k1
  have HR1 := tHid hR1
  have HW0 := tHid hW0
  have HB0 := tHid hb0
  have hzf := rz_facts zrec zrec_length
  have Z1 := tHid hzf.1
  have Z2 := tHid hzf.2.1
  have Z3 := tHid hzf.2.2
  have HW1 := tHid hW1
  have hll : (l.length : Int) ≤ 140737488351232 := by omega
  have hzz : Tryz.zeroCells28 = rc zrec := zrec_rc
  clear hW0 hW1 hQ0 hR1 k1 hN0 hb0 s1 hzf
  rw [hzz] at HW0 HB0 HW1 Z2
  have HEN0 : Hid (∀ (W : World) (R : List By), R.length = 512 → Nw w W → RcH qb R W → recOf l = R → ∀ tmps : Array Value, tmps.getD 2 undef = .pointer (some ⟨qb, 0, none⟩) → bodyPost Tryz.prog Tryz.f5 P .ret ⟨tmps, []⟩ W) := fun W R hRl hW hq h1 tmps g2 => by
    refine bodyPost_ret (results_cell_row (P := Tryz.prog) (p := 2) (ty := 28) rfl _ _ qb 28 (rc R) (0, 0) _ g2 hq Tryz.underlying28 rfl (rc_info R hRl)) rfl ?_
    rw [← h1]
    exact HF.out W hW
  go_enter Tryz.func5, Tryz.ntmps5
  go_upto_region 1 with fail
  rw [HW0.out]
  go_upto_region 3 with (first
    | (refine wpList_store_row rfl 28 _ _ rfl rb (rc zrec) (by first | rfl | simp [Act.eval]) (by first | rfl | simp [Act.eval]) 28 _ HB0.out Z1.out (by first | exact Z2.out | rfl) Z3.out ?_; rw [HW1.out]))
  go_loopg [4] 512 (fun kx v wr => ∃ I : Nat, I ≤ l.length ∧ I ≤ 512 ∧ min l.length 512 ≤ I + kx ∧ v = .int .i64 (I : Int) ∧ Hid (RcH rb (recB l I) wr ∧ Fr (fun k => k = rb) W1 wr))
  case atStart => exact ⟨0, by omega, by omega, by omega, rfl, by rw [recB_zero]; exact ⟨HR1.out, Fr.refl _ _⟩⟩
  case round =>
    obtain ⟨I, hI1, hI2, hkx, rfl, HI⟩ := hrel
    by_cases hlt : I < l.length ∧ I < 512
    · obtain ⟨q1, q2⟩ := hlt
      have q1' : (I : Int) < (l.length : Int) := by omega
      have q2' : (I : Int) < 512 := by omega
      obtain ⟨g, o, rfl, hg, hrd⟩ : ∃ g o, a = some ⟨g, o, none⟩ ∧ ¬ w.heap.size ≤ g ∧ Rd g o l w := by
        rcases hl with ⟨a', e, rfl⟩ | ⟨g, hg, o, c', e, _, _, hr⟩
        · simp at q1
        · injection e with ea _ _
          exact ⟨g, o, ea, hg, hr⟩
      have hfw : Fr (fun k => k = rb) w wr := Fr.then (Fr.mono HN1.out (fun i hi => hi.elim)) HI.out.2 (fun i hi => .inl hi)
      have hcl : wr.cell? ⟨g, o + I, none⟩ = some (.int .u8 (l[I]'q1).toNat) := by
        have h0 := hrd.at I l[I] (List.getElem?_eq_getElem q1)
        have hgl : g < w.heap.size := by omega
        have hb := hfw.block g hgl (by omega)
        unfold World.cell? at h0 ⊢
        rw [hb]
        exact h0
      have hrc := HI.out.1.cell I (by rw [recB_length l I hI1 hI2]; exact q2)
      have r1 := hrc.1
      have r2 := hrc.2
      have HNX : Hid (RcH rb (recB l (I + 1)) (wr.setCell ⟨rb, I, none⟩ (.int .u8 (l[I]'q1).toNat)) ∧ Fr (fun k => k = rb) W1 (wr.setCell ⟨rb, I, none⟩ (.int .u8 (l[I]'q1).toNat))) := by
        refine ⟨?_, HI.out.2.setCell ⟨rb, I, none⟩ _ (.inl rfl)⟩
        rw [← recB_set l I q1 q2]
        exact HI.out.1.set I l[I] _ rfl
      clear hrd hfw hrc HI hl
      generalize (l[I]'q1) = x at *
      go_wp2_with fail
      go_roundg (min l.length 512 - (I + 1))
      case measure => omega
      case rel => exact ⟨I + 1, by omega, by omega, by omega, by first | rfl | (congr 1), HNX⟩
    · have hR : recOf l = recB l I := by unfold recOf; congr 1; omega
      have hRl := recB_length l I hI1 hI2
      have hq5 := HQ1.out.kept HI.out.2 (fun e => by omega)
      obtain ⟨W5, e5⟩ : ∃ W5, wr.setRow qb (rc (recB l I)) = W5 := ⟨_, rfl⟩
      have hq6 : RcH qb (recB l I) W5 := by rw [← e5]; exact setRow_heap _ _ _ _ 28 _ hq5
      have hn6 : Nw w W5 := by
        rw [← e5]
        exact (Fr.then HN1.out HI.out.2 (fun i hi => .inr (by omega))).setRow _ _ (.inr (by omega))
      have Y1 := tHid HI.out.1
      have Y2 := tHid (rc_info (recB l I) hRl)
      have Y3 := tHid hq5
      have Y4 : Hid ((rc zrec).size = (rc (recB l I)).size) := by show _ = _; rw [rc_size, rc_size, zrec_length, hRl]
      have Y5 := tHid (rc_one (recB l I))
      have HE := tHid (HEN0.out W5 (recB l I) hRl hn6 hq6 hR)
      clear HI hq5 hq6 hn6 hRl HEN0 HF hR hl
      generalize recB l I = R at *
      by_cases hp : (I : Int) < (l.length : Int)
      · have hp2 : ¬ (I : Int) < 512 := by omega
        go_wp2_with (first
          | (refine wpList_load_row rfl 28 _ rfl rb (by first | rfl | simp [Act.eval]) 28 _ (0, 0) _ Y1.out Tryz.underlying28 rfl Y2.out ?_)
          | (refine wpList_store_row rfl 28 _ _ rfl qb (rc R) (by first | rfl | simp [Act.eval]) (by first | rfl | simp [Act.eval]) 28 _ Y3.out Y2.out Y4.out Y5.out ?_; rw [e5]))
        (try simp only [Exit.inBlock, Exit.then])
        exact HE.out _ rfl
      · go_wp2_with (first
          | (refine wpList_load_row rfl 28 _ rfl rb (by first | rfl | simp [Act.eval]) 28 _ (0, 0) _ Y1.out Tryz.underlying28 rfl Y2.out ?_)
          | (refine wpList_store_row rfl 28 _ _ rfl qb (rc R) (by first | rfl | simp [Act.eval]) (by first | rfl | simp [Act.eval]) 28 _ Y3.out Y2.out Y4.out Y5.out ?_; rw [e5]))
        (try simp only [Exit.inBlock, Exit.then])
        exact HE.out _ rfl
/-- Decode, and its answer laid into a block. -/
theorem dec_blk (b : List By) (hb : b.length = 512) (V : World) : Calls Tryz.prog 4 #[.agg (rc b)] V fun e w2 => e = .returned (.tuple #[.agg (decH b).C, .int .i64 (decP b : Nat), .int .i64 (decE b : Nat)]) ∧ ∃ W3, (w2.alloc (.cells #[.int .i64 0, .string ⟨#[]⟩, .string ⟨#[]⟩, .int .i64 0, .int .i64 0, .int .i64 0, .int .i64 0, .int .i64 0, .int .u8 0, .string ⟨#[]⟩, .string ⟨#[]⟩, .string ⟨#[]⟩, .int .i64 0, .int .i64 0] 24)).setRow w2.heap.size (decH b).C = W3 ∧ Hid (HcH w2.heap.size (decH b) W3 ∧ Nw V W3 ∧ V.heap.size ≤ w2.heap.size) := by
  refine (decode_any b hb V).mono ?_
  rintro e w2 ⟨rfl, k⟩
  have hb2 : (w2.alloc (.cells hZ.C 24)).heap[w2.heap.size]? = some (.cells hZ.C 24) := newHeap _ _
  have hn : Nw w2 ((w2.alloc (.cells hZ.C 24)).setRow w2.heap.size (decH b).C) := ((Fr.refl _ _).alloc _).setRow _ _ (.inr (Nat.le_refl _))
  exact ⟨rfl, _, rfl, setRow_heap _ _ _ _ 24 _ hb2, k.trans hn, k.size⟩
set_option maxRecDepth 100000 in
theorem eql_hc (h : Hr) (w : World) : (binOp BinOp.eql 24 (.agg h.C) (.agg h.C)).run Tryz.prog w = .ok (.bool true) w := by
  have u2 := Tryz.underlying2
  have u3 := Tryz.underlying3
  have u5 := Tryz.underlying5
  have u9 := Tryz.underlying9
  have hS : Tryz.prog.underlying 24 = some (.struct (Tryz.prog.fieldsOf 24)) := by kernel_rfl
  have he : (Op.equalIn 10000 24 (.agg h.C) (.agg h.C)).run Tryz.prog w = .ok true w := by
    unfold Hr.C
    rw [show (10000 : Nat) = 9999 + 1 from rfl, run_equalIn_agg w 9999 24 _ _ hS (by kernel_rfl)]
    simp only [Program.fieldsOf, Tryz.underlying24]
    go_simp
  have he' : (Op.equalIn Op.maxDepth 24 (.agg h.C) (.agg h.C)).run Tryz.prog w = .ok true w := he
  simp [binOp, Op.equal, he']
/-! ### HeaderReads -/
theorem rdec_blk (b : List By) (hb : b.length = 512) (V : World) : Calls Tryz.prog 6 #[.agg (rc b)] V fun e w2 => e = .returned (.tuple #[.agg (decH b).C, .int .i64 (decP b : Nat), .int .i64 (decE b : Nat)]) ∧ ∃ W3, (w2.alloc (.cells #[.int .i64 0, .string ⟨#[]⟩, .string ⟨#[]⟩, .int .i64 0, .int .i64 0, .int .i64 0, .int .i64 0, .int .i64 0, .int .u8 0, .string ⟨#[]⟩, .string ⟨#[]⟩, .string ⟨#[]⟩, .int .i64 0, .int .i64 0] 24)).setRow w2.heap.size (decH b).C = W3 ∧ Hid (HcH w2.heap.size (decH b) W3 ∧ Nw V W3 ∧ V.heap.size ≤ w2.heap.size) := by
  refine (rdecode_any b hb V).mono ?_
  rintro e w2 ⟨rfl, k⟩
  have hb2 : (w2.alloc (.cells hZ.C 24)).heap[w2.heap.size]? = some (.cells hZ.C 24) := newHeap _ _
  have hn : Nw w2 ((w2.alloc (.cells hZ.C 24)).setRow w2.heap.size (decH b).C) := ((Fr.refl _ _).alloc _).setRow _ _ (.inr (Nat.le_refl _))
  exact ⟨rfl, _, rfl, setRow_heap _ _ _ _ 24 _ hb2, k.trans hn, k.size⟩
def hThree : Hr := ⟨1, ⟨#[97]⟩, eS, 0, 0, 0, 0, 0, 48#8, eS, eS, eS, 0, 0⟩
theorem hThree_ok : hThree.Ok := by constructor <;> first | decide | (constructor <;> decide)
theorem hThree_e : encE hThree = 0 := by decide +kernel
theorem hThree_t : (encR hThree)[0]? = some 97#8 := by
  obtain ⟨e, F⟩ := encS_eq hThree hThree_ok hThree_e
  have h1 := F.fd 0 0 100 rfl rfl
  rw [← e] at h1
  have h2 : (encS hThree).getD 0 [] = pxL ⟨#[97]⟩ 100 := rfl
  rw [h2] at h1
  unfold fd at h1
  have h3 := congrArg (·[0]?) h1
  simp only [List.getElem?_take, List.getElem?_drop] at h3
  have h4 : (pxL ⟨#[97]⟩ 100)[0]? = some 97#8 := by decide +kernel
  rw [h4] at h3
  simpa using h3
set_option maxHeartbeats 4000000 in
set_option maxRecDepth 100000 in
theorem reads_walk (w : World) (a : Option Addr) (c : Nat) (l : List By) (hl : Old w (.slice a l.length c) l) (hbig : l.length ≤ 140737488351232) : Calls Tryz.prog 3 #[.slice a l.length c] w fun e w' => e = .returned (.bool true) ∧ Nw w w' := by
  obtain ⟨P, hP⟩ : ∃ P : Ending → World → Prop, P = fun e w' => e = .returned (.bool true) ∧ Nw w w' := ⟨_, rfl⟩
  rw [← hP]
  have HF : Hid (∀ W, Nw w W → P (.returned (.bool true)) W) := fun W hW => by rw [hP]; exact ⟨rfl, hW⟩
  clear hP
  have hBl := recOf_length l
  have HRC : Hid (∀ V, Nw w V → Calls Tryz.prog 5 #[.slice a l.length c] V fun e w' => e = .returned (.agg (rc (recOf l))) ∧ Hid (Nw w w' ∧ Nw V w')) := fun V hV => (record13_any V a c l (hl.later hV) hbig).mono (fun e w' q => ⟨q.1, hV.trans q.2, q.2⟩)
  generalize recOf l = B at *
  have HD1 : Hid (∀ V, Nw w V → Calls Tryz.prog 4 #[.agg (rc B)] V fun e w2 => e = .returned (.tuple #[.agg (decH B).C, .int .i64 (decP B : Nat), .int .i64 (decE B : Nat)]) ∧ ∃ W3, (w2.alloc (.cells #[.int .i64 0, .string ⟨#[]⟩, .string ⟨#[]⟩, .int .i64 0, .int .i64 0, .int .i64 0, .int .i64 0, .int .i64 0, .int .u8 0, .string ⟨#[]⟩, .string ⟨#[]⟩, .string ⟨#[]⟩, .int .i64 0, .int .i64 0] 24)).setRow w2.heap.size (decH B).C = W3 ∧ Hid (HcH w2.heap.size (decH B) W3 ∧ Nw w W3)) := fun V hV => (dec_blk B hBl V).mono (fun e w2 q => ⟨q.1, by obtain ⟨W3, e3, K⟩ := q.2; exact ⟨W3, e3, K.out.1, hV.trans K.out.2.1⟩⟩)
  have HD2 : Hid (∀ V, Nw w V → Calls Tryz.prog 6 #[.agg (rc B)] V fun e w2 => e = .returned (.tuple #[.agg (decH B).C, .int .i64 (decP B : Nat), .int .i64 (decE B : Nat)]) ∧ ∃ W3, (w2.alloc (.cells #[.int .i64 0, .string ⟨#[]⟩, .string ⟨#[]⟩, .int .i64 0, .int .i64 0, .int .i64 0, .int .i64 0, .int .i64 0, .int .u8 0, .string ⟨#[]⟩, .string ⟨#[]⟩, .string ⟨#[]⟩, .int .i64 0, .int .i64 0] 24)).setRow w2.heap.size (decH B).C = W3 ∧ Hid (HcH w2.heap.size (decH B) W3 ∧ Nw V W3)) := fun V hV => (rdec_blk B hBl V).mono (fun e w2 q => ⟨q.1, by obtain ⟨W3, e3, K⟩ := q.2; exact ⟨W3, e3, K.out.1, K.out.2.1⟩⟩)
  have HEN : Hid (∀ V, Calls Tryz.prog 7 #[.agg #[.int .i64 1, .string ⟨#[97]⟩, .string ⟨#[]⟩, .int .i64 0, .int .i64 0, .int .i64 0, .int .i64 0, .int .i64 0, .int .u8 48, .string ⟨#[]⟩, .string ⟨#[]⟩, .string ⟨#[]⟩, .int .i64 0, .int .i64 0]] V fun e w2 => e = .returned (.tuple #[.agg (rc (encR hThree)), .int .i64 0]) ∧ ∃ W3, (w2.alloc (.cells Tryz.zeroCells28 28)).setRow w2.heap.size (rc (encR hThree)) = W3 ∧ W3.cell? ⟨w2.heap.size, 0, none⟩ = some (.int .u8 97) ∧ Hid (Nw V W3)) := fun V => by
    have t := enc_blk hThree hThree_ok V
    rw [hThree_e] at t
    refine t.mono ?_
    rintro e w2 ⟨rfl, W3, e3, K⟩
    obtain ⟨hl0, e0⟩ := List.getElem?_eq_some_iff.1 hThree_t
    have c0 := (K.out.1.rec1.cell 0 hl0).1
    rw [e0] at c0
    exact ⟨rfl, W3, e3, c0, K.out.1.nw⟩
  have HSZ := tHid hcSize
  have HON := tHid hc_one
  have HZ1 : Hid (∀ m : Hr, (#[.int .i64 0, .string ⟨#[]⟩, .string ⟨#[]⟩, .int .i64 0, .int .i64 0, .int .i64 0, .int .i64 0, .int .i64 0, .int .u8 0, .string ⟨#[]⟩, .string ⟨#[]⟩, .string ⟨#[]⟩, .int .i64 0, .int .i64 0] : Array Value).size = m.C.size) := fun m => rfl
  have HZI := tHid (fun R hR => rz_facts R hR)
  have HRO := tHid (encR_length hThree hThree_ok)
  have heq := eql_hc (decH B)
  clear hl hBl
  generalize decP B = p at *
  generalize decE B = E at *
  generalize hM : decH B = M at *
  clear hM
  generalize rc B = D at *
  go_enter Tryz.func3, Tryz.ntmps3
  go_upto_region 2 with (first
    | (go_at_call 5; with_reducible refine (HRC.out _ (Fr.refl _ _)).mono ?_; rintro e w1 ⟨rfl, K1⟩)
    | (go_at_call 4; with_reducible refine (HD1.out _ K1.out.1).mono ?_; rintro e w2 ⟨rfl, W3, e3, K3⟩)
    | (refine wpList_store_row rfl 24 _ _ rfl w2.heap.size M.C (by first | rfl | simp [Act.eval]) (by first | rfl | simp [Act.eval]) 24 _ (newHeap w2 _) (HSZ.out _) (HZ1.out _) (HON.out _) ?_; rw [e3]))
  generalize w2.heap.size = d1 at *
  clear e3 HD1
  go_upto_region 3 with (first
    | (go_at_call 5; with_reducible refine (HRC.out _ K3.out.2).mono ?_; rintro e w4 ⟨rfl, K4⟩)
    | (go_at_call 6; with_reducible refine (HD2.out _ K4.out.1).mono ?_; rintro e w5 ⟨rfl, W6, e6, K6⟩)
    | (refine wpList_store_row rfl 24 _ _ rfl w5.heap.size M.C (by first | rfl | simp [Act.eval]) (by first | rfl | simp [Act.eval]) 24 _ (newHeap w5 _) (HSZ.out _) (HZ1.out _) (HON.out _) ?_; rw [e6]))
  generalize w5.heap.size = d2 at *
  have HE8 : Hid (∀ W, Nw W6 W → W.heap[d1]? = some (.cells M.C 24) ∧ W.heap[d2]? = some (.cells M.C 24) ∧ Nw w W) := fun W hW => ⟨Nw.heap ((K4.out.2.trans K6.out.2).trans hW) K3.out.1, Nw.heap hW K6.out.1, (K4.out.1.trans K6.out.2).trans hW⟩
  clear e6 HD2 HRC
  go_upto_region 4 with (first
    | (go_at_call 7; with_reducible refine (HEN.out _).mono ?_; rintro e w7 ⟨rfl, W8, e8, c8, K8⟩)
    | (refine wpList_store_row rfl 28 _ _ rfl w7.heap.size (rc (encR hThree)) (by first | rfl | simp [Act.eval]) (by first | rfl | simp [Act.eval]) 28 _ (newHeap w7 _) (HZI.out _ HRO.out).1 (HZI.out _ HRO.out).2.1 (HZI.out _ HRO.out).2.2 ?_; rw [e8]))
  generalize w7.heap.size = rb at *
  have YA := tHid (HE8.out W8 K8.out).1
  have YB := tHid (HE8.out W8 K8.out).2.1
  clear e8 HEN
  go_wp2_with (first
    | (refine wpList_load_row rfl 24 _ rfl _ (by rfl) 24 M.C (0, 0) _ (by first | exact YA.out | exact YB.out) Tryz.underlying24 rfl (HSZ.out M) ?_))
  exact HF.out _ (HE8.out W8 K8.out).2.2
end Go.Proofs.YtoegbaenheeogaaGreatDoor
