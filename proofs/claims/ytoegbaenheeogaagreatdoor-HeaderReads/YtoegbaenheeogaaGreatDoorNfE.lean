import Derived.Test.YtoegbaenheeogaaGreatDoorNfD
namespace Go.Proofs.YtoegbaenheeogaaGreatDoor
open Go.RowKit
set_option linter.unusedVariables false
theorem trR_snoc (l : List By) (x : By) (h : isBz x = false) : trR (l ++ [x]) = l ++ [x] := by
  unfold trR
  rw [List.reverse_append, List.reverse_singleton, List.singleton_append, List.dropWhile_cons, if_neg (by rw [h]; decide), List.reverse_cons, List.reverse_reverse]
theorem take_snoc (b : List By) (m : Nat) (h : m < b.length) : b.take (m + 1) = b.take m ++ [b[m]] := by
  rw [List.take_add_one, List.getElem?_eq_getElem h]; rfl
set_option maxHeartbeats 4000000 in
set_option maxRecDepth 100000 in
theorem trimrA_any {X : Nat → Prop} (w : World) (a : Option Addr) (n c : Nat) (b : List By) (hb : Sl X (.slice a n c) b w) (ab : Nat) (hab : w.heap[ab]? = some (.cells AS 110)) :
    Calls Tryz.prog 72 #[.slice a n c, .pointer (some ⟨ab, 0, none⟩)] w fun e w' => ∃ M : Nat, e = .returned (.slice a M c) ∧ Hid (M ≤ n ∧ b.take M = trR b) ∧ w = w' := by
  obtain ⟨P, hP⟩ : ∃ P : Ending → World → Prop, P = fun e w' => ∃ M : Nat, e = .returned (.slice a M c) ∧ Hid (M ≤ n ∧ b.take M = trR b) ∧ w = w' := ⟨_, rfl⟩
  rw [← hP]
  have HF : Hid (∀ M, M ≤ n → b.take M = trR b → P (.returned (.slice a M c)) w) := fun M h1 h2 => by rw [hP]; exact ⟨M, rfl, ⟨h1, h2⟩, rfl⟩
  clear hP
  obtain ⟨hbn, k1, k2⟩ := sl_len hb
  have HR : Hid (∀ I, (hI : I < b.length) → ∃ g o, a = some ⟨g, o, none⟩ ∧ w.cell? ⟨g, o + I, none⟩ = some (.int .u8 b[I].toNat)) := fun I hI => by
    rcases hb with ⟨a', e, e2⟩ | ⟨g, _, o, c', e, e1, e2, hr⟩
    · subst e2; simp at hI
    · injection e with e _ ec
      exact ⟨g, o, e, hr I hI⟩
  have HC := tHid (fun x : By => asciiHas_any ab x w hab)
  have HBN := tHid hbn
  clear hb hab hbn
  go_enter Tryz.func72, Tryz.ntmps72
  go_wp2_with fail
  go_loopg [0] n (fun kx v wr => ∃ M : Nat, M ≤ n ∧ M ≤ kx ∧ v = .slice a M c ∧ wr = w ∧ Hid (trR (b.take M) = trR b))
  case atStart => exact ⟨n, by omega, by omega, rfl, rfl, by show _ = _; rw [List.take_of_length_le (by rw [HBN.out]; exact Nat.le_refl _)]⟩
  case round =>
    obtain ⟨M, hM, hkx, rfl, rfl, HZ⟩ := hrel
    by_cases h0 : M = 0
    · subst h0
      have HF2 := tHid (HF.out 0 (by omega) (by rw [← HZ.out]; rfl))
      clear HF HR HZ HC HBN
      go_wp2_with fail
      exact HF2.out
    · obtain ⟨M1, rfl⟩ : ∃ M1, M = M1 + 1 := ⟨M - 1, by omega⟩
      have hlt : M1 < b.length := by have := HBN.out; omega
      obtain ⟨g, o, rfl, x0⟩ := HR.out M1 hlt
      have hz := HZ.out
      rw [take_snoc b M1 hlt] at hz
      have z1 : (0 : Int) < ((M1 + 1 : Nat) : Int) := by omega
      have z2 : ((M1 + 1 : Nat) : Int) - 1 = (M1 : Int) := by omega
      have HCx := tHid (HC.out b[M1])
      cases hx : isBz b[M1] with
      | true =>
        rw [trR_all [b[M1]] (by rw [List.all_cons, hx]; rfl)] at hz
        have HN := tHid hz
        rw [hx] at HCx
        clear HF HR HZ HC HBN hz hx h0
        generalize b[M1].toNat = x at *
        go_wp2_with (first | (go_at_call 89; with_reducible refine HCx.out.mono ?_; rintro e w1 ⟨rfl, rfl⟩))
        go_roundg M1
        all_goals (first | omega | exact ⟨M1, by omega, by omega, rfl, rfl, HN⟩)
      | false =>
        rw [trR_snoc _ _ hx] at hz
        have HF2 := tHid (HF.out (M1 + 1) hM (by rw [take_snoc b M1 hlt]; exact hz))
        rw [hx] at HCx
        clear HF HR HZ HC HBN hz hx h0
        generalize b[M1].toNat = x at *
        go_wp2_with (first | (go_at_call 89; with_reducible refine HCx.out.mono ?_; rintro e w1 ⟨rfl, rfl⟩))
        exact HF2.out
theorem trR_nil : trR [] = [] := rfl
set_option maxHeartbeats 4000000 in
set_option maxRecDepth 100000 in
/-- bytes.TrimRight of blanks and zeros. -/
theorem trimr2_any {X : Nat → Prop} (w : World) (a : Option Addr) (n c : Nat) (b : List By) (hb : Sl X (.slice a n c) b w) :
    Calls Tryz.prog 54 #[.slice a n c, .string ⟨#[32, 0]⟩] w fun e w' => ∃ M : Nat, e = .returned (.slice a M c) ∧ Hid (M ≤ n ∧ b.take M = trR b) ∧ Hid (Nw w w') := by
  obtain ⟨P, hP⟩ : ∃ P : Ending → World → Prop, P = fun e w' => ∃ M : Nat, e = .returned (.slice a M c) ∧ Hid (M ≤ n ∧ b.take M = trR b) ∧ Hid (Nw w w') := ⟨_, rfl⟩
  rw [← hP]
  have HF : Hid (∀ M W, M ≤ n → b.take M = trR b → Nw w W → P (.returned (.slice a M c)) W) := fun M W h1 h2 h3 => by rw [hP]; exact ⟨M, rfl, ⟨h1, h2⟩, h3⟩
  clear hP
  obtain ⟨hbn, k1, k2⟩ := sl_len hb
  by_cases h0 : n = 0
  · subst h0
    have HF2 := tHid (HF.out 0 w (by omega) (by rw [List.length_eq_zero_iff.1 hbn]; rfl) (Fr.refl _ _))
    clear HF hb
    go_enter Tryz.func54, Tryz.ntmps54
    go_wp2_with fail
    first | exact HF2.out | (go_ret; exact HF2.out)
  · have z1 : ((n : Int) == 0) = false := by rw [beq_eq_false_iff_ne]; omega
    have z2 : ¬ (n : Int) = 0 := by omega
    have hN1 : Nw w (w.alloc (.cells AS 110)) := (Fr.refl _ _).alloc _
    have hN2 : Nw w ((w.alloc (.cells AS 110)).alloc (.cells AS 110)) := ((Fr.refl _ _).alloc _).alloc _
    have HN2 := tHid hN2
    have hsz1 : (w.alloc (.cells AS 110)).heap.size = w.heap.size + 1 := by simp
    have HM := tHid (mkAscii_any w)
    have hnew : ((w.alloc (.cells AS 110)).alloc (.cells Tryz.zeroCells110 110)).heap[w.heap.size + 1]? = some (.cells Tryz.zeroCells110 110) := by
      rw [← hsz1]; exact newHeap _ _
    have hset : ((w.alloc (.cells AS 110)).alloc (.cells Tryz.zeroCells110 110)).setRow (w.heap.size + 1) AS = (w.alloc (.cells AS 110)).alloc (.cells AS 110) := by
      rw [← hsz1]; exact World.setRow_alloc_new _ _ _ _
    have hzs : Tryz.zeroCells110.size = AS.size := by rw [zc53, Lib.setCells_size, as_size]
    have hnew2 : ((w.alloc (.cells AS 110)).alloc (.cells AS 110)).heap[w.heap.size + 1]? = some (.cells AS 110) := by
      rw [← hsz1]; exact newHeap _ _
    have HT := tHid (trimrA_any _ a n c b (hb.nw hN2) (w.heap.size + 1) hnew2)
    have HZS := tHid hzs
    have HW := tHid hnew
    have HS := tHid hset
    obtain ⟨cs, hcs⟩ : ∃ cs : ByteArray, cs = ⟨#[32, 0]⟩ := ⟨_, rfl⟩
    rw [← hcs] at HM ⊢
    have hsz : cs.size = 2 := by rw [hcs]; rfl
    have hem : cs.toList.isEmpty = false := by rw [hcs, ByteArray.toList_eq]; rfl
    clear hcs hb hnew hset hzs hnew2 hN1 hN2 h0 hbn
    skip
    go_enter Tryz.func54, Tryz.ntmps54
    go_wp2_with (first
      | (go_at_call 71; with_reducible refine HM.out.mono ?_; rintro e w1 ⟨rfl, rfl⟩)
      | (refine wpList_store_row rfl 110 _ _ rfl (w.heap.size + 1) AS (by first | rfl | simp [Act.eval]) (by first | rfl | simp [Act.eval]) 110 _ HW.out as_info HZS.out as_one ?_; rw [HS.out])
      | (go_at_call 72; with_reducible refine HT.out.mono ?_; rintro e w2 ⟨M, rfl, HM2, rfl⟩))
    have HF2 := tHid (HF.out M _ HM2.out.1 HM2.out.2 HN2.out)
    first | exact HF2.out | (go_ret; exact HF2.out)
end Go.Proofs.YtoegbaenheeogaaGreatDoor
