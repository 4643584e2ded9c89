import Derived.Test.YtoegbaenheeogaaGreatDoorNfV
namespace Go.Proofs.YtoegbaenheeogaaGreatDoor
open Go.RowKit
set_option linter.unusedVariables false
set_option maxHeartbeats 8000000 in
set_option maxRecDepth 100000 in
theorem rnumber_any (w : World) (a : Option Addr) (n c : Nat) (b : List By) (hb : Old w (.slice a n c) b) (hbl : n ≤ 140737488351232) :
    Calls Tryz.prog 22 #[.slice a n c] w fun e w' => e = .returned (numA b) ∧ Nw w w' := by
  obtain ⟨P, hP⟩ : ∃ P : Ending → World → Prop, P = fun e w' => e = .returned (numA b) ∧ Nw w w' := ⟨_, rfl⟩
  rw [← hP]
  have HF : Hid (∀ W, Nw w W → P (.returned (numA b)) W) := fun W hW => by rw [hP]; exact ⟨rfl, hW⟩
  have HO : Hid (Calls Tryz.prog 48 #[.slice a n c] w fun e w' => e = .returned (.tuple #[.int .i64 (octN b : Nat), .int .i64 (octE b : Nat)]) ∧ w = w') := roctal_any w a n c b hb
  have HB : Hid (Calls Tryz.prog 49 #[.slice a n c] w fun e w' => e = .returned (.tuple #[.int .i64 (binN b), .int .i64 (binE b : Nat)]) ∧ Hid (Nw w w')) := rbinary_any w a n c b hb hbl
  clear hP
  obtain ⟨hbn, k1, k2⟩ := sl_len hb
  cases b with
  | nil =>
    obtain rfl : n = 0 := hbn.symm
    have e : numA [] = .tuple #[.int .i64 (octN [] : Nat), .int .i64 (octE [] : Nat)] := by unfold numA; rw [if_neg (by decide)]; rfl
    rw [e] at HF
    have HF2 := tHid (HF.out w (Fr.refl _ _))
    clear hb e HB HF
    generalize octN [] = N at *
    generalize octE [] = E at *
    go_enter Tryz.func22, Tryz.ntmps22
    go_wp2_with (first | (go_at_call 48; with_reducible refine HO.out.mono ?_; rintro e w1 ⟨rfl, rfl⟩))
    exact HF2.out
  | cons x l =>
    obtain ⟨g, o, rfl, hn, hc, _, x0, _, _⟩ := sl_cons hb
    have z1 : (0 : Int) < (n : Int) := by omega
    have z2 : 0 < n := by omega
    by_cases hx : 128 ≤ x.toNat
    · have e1 : (128 : Int) ≤ (x.toNat : Int) := by omega
      have e2 : decide ((128 : Int) ≤ (x.toNat : Int)) = true := decide_eq_true e1
      have e : numA (x :: l) = .tuple #[.int .i64 (binN (x :: l)), .int .i64 (binE (x :: l) : Nat)] := by unfold numA; rw [if_pos (by exact hx)]; rfl
      rw [e] at HF
      clear hb e HO hn hbn hx
      generalize binN (x :: l) = N at *
      generalize binE (x :: l) = E at *
      generalize x.toNat = xx at *
      go_enter Tryz.func22, Tryz.ntmps22
      go_wp2_with (first | (go_at_call 49; with_reducible refine HB.out.mono ?_; rintro e w1 ⟨rfl, H1⟩))
      exact HF.out _ H1.out
    · have e1 : ¬ (128 : Int) ≤ (x.toNat : Int) := by omega
      have e2 : decide ((128 : Int) ≤ (x.toNat : Int)) = false := decide_eq_false e1
      have e : numA (x :: l) = .tuple #[.int .i64 (octN (x :: l) : Nat), .int .i64 (octE (x :: l) : Nat)] := by unfold numA; rw [if_neg (by exact hx)]; rfl
      rw [e] at HF
      have HF2 := tHid (HF.out w (Fr.refl _ _))
      clear hb e HB hn hbn hx HF
      generalize octN (x :: l) = N at *
      generalize octE (x :: l) = E at *
      generalize x.toNat = xx at *
      go_enter Tryz.func22, Tryz.ntmps22
      go_wp2_with (first | (go_at_call 48; with_reducible refine HO.out.mono ?_; rintro e w1 ⟨rfl, rfl⟩))
      exact HF2.out
theorem txt_none (b : List By) (h : b.all nz = true) : txt b = b := by
  have := (tw_all b [] nz h (fun x hx => by cases hx)).1
  rw [List.append_nil] at this
  exact this
set_option maxHeartbeats 8000000 in
set_option maxRecDepth 100000 in
theorem rtext_any {X : Nat → Prop} (w : World) (a : Option Addr) (n c : Nat) (b : List By) (hb : Sl X (.slice a n c) b w) :
    Calls Tryz.prog 23 #[.slice a n c] w fun e w' => e = .returned (.string (str (txt b))) ∧ w = w' := by
  obtain ⟨P, hP⟩ : ∃ P : Ending → World → Prop, P = fun e w' => e = .returned (.string (str (txt b))) ∧ w = w' := ⟨_, rfl⟩
  rw [← hP]
  have HF : Hid (P (.returned (.string (str (txt b)))) w) := by rw [hP]; exact ⟨rfl, rfl⟩
  clear hP
  obtain ⟨hbn, k1, k2⟩ := sl_len hb
  have HR := tHid (sl_rd hb)
  have HS := tHid hb
  have HN := tHid hbn
  clear hb hbn
  go_enter Tryz.func23, Tryz.ntmps23
  go_wp2_with fail
  go_loopg [3] n (fun kx v wr => ∃ I : Nat, I ≤ n ∧ n - I ≤ kx ∧ v = .int .i64 I ∧ wr = w ∧ Hid ((b.take I).all nz = true))
  case atStart => exact ⟨0, by omega, by omega, rfl, rfl, rfl⟩
  case round =>
    obtain ⟨I, hI, hkx, rfl, rfl, HI⟩ := hrel
    by_cases hlt : I < n
    · have hlt' : I < b.length := by have := HN.out; omega
      obtain ⟨g, o, rfl, hc⟩ := HR.out I hlt'
      cases hd : nz b[I] with
      | true =>
        have HNX : Hid ((b.take (I + 1)).all nz = true) := by
          show _ = _
          rw [take_snoc b I hlt', List.all_append, HI.out, List.all_cons, hd]; rfl
        have hd2 := of_decide_eq_true hd
        have n2 : ¬ b[I].toNat = 0 := fun e => hd2 (BitVec.eq_of_toNat_eq e)
        have n3 : ((b[I].toNat : Int) == 0) = false := by rw [beq_eq_false_iff_ne]; omega
        clear HF HR HS HN HI hd hd2
        generalize b[I].toNat = y at *
        go_wp2_with fail
        go_roundg (n - (I + 1))
        case measure => omega
        case rel => exact ⟨I + 1, by omega, by omega, by first | rfl | (congr 1), rfl, HNX⟩
      | false =>
        have hz : b[I].toNat = 0 := by
          have : b[I] = 0#8 := by simpa [nz] using hd
          rw [this]; rfl
        have ht : txt b = b.take I := by
          have e : b = b.take I ++ b.drop I := (List.take_append_drop I b).symm
          have := (tw_all (b.take I) (b.drop I) nz HI.out (fun x hx => by rw [drop_at b I hlt'] at hx; injection hx with hx; rw [← hx]; exact hd)).1
          rw [← e] at this
          exact this
        have hcv := conv_any (sl_take HS.out I (by omega))
        rw [← ht] at hcv
        rw [hz] at hc
        have hc2 : wr.cell? ⟨g, o + I, none⟩ = some (.int .u8 0) := hc
        have z1 : (I : Int) ≤ (c : Int) := by omega
        clear HR HS HN HI hd hz ht hc
        generalize str (txt b) = T at *
        go_wp2_with fail
        first | exact HF.out | (go_ret; exact HF.out)
    · have ht : txt b = b := txt_none b (by
        have := HI.out
        rw [List.take_of_length_le (by have := HN.out; omega)] at this
        exact this)
      have hcv := conv_any HS.out
      rw [ht] at HF
      clear HR HS HN HI ht
      generalize str b = T at *
      go_wp2_with fail
      first | exact HF.out | (go_ret; exact HF.out)
end Go.Proofs.YtoegbaenheeogaaGreatDoor
