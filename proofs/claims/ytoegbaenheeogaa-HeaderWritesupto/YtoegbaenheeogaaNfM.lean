import Derived.Test.YtoegbaenheeogaaNfK
import Derived.Test.YtoegbaenheeogaaNfL
import Derived.Test.YtoegbaenheeogaaXxZ
import Derived.Lib.BufferWrite
namespace Go.Proofs.Ytoegbaenheeogaa
open Go.RowKit
set_option linter.unusedVariables false
/-- PutNumber. -/
def pnE (n d : Int) : Nat := if poE n d = 0 then 0 else pbE n d
def pnL (n d : Int) : List By := if poE n d = 0 then poL n d else pbL n d
set_option maxHeartbeats 4000000 in
set_option maxRecDepth 100000 in
theorem putNumber_any (n d : Int) (w : World) (hn1 : -9223372036854775808 ≤ n) (hn2 : n ≤ 9223372036854775807) :
    Calls Try.prog 31 #[.int .i64 n, .int .i64 d] w (PutA (pnE n d) (pnL n d) w) := by
  obtain ⟨P, hP⟩ : ∃ P : Ending → World → Prop, P = PutA (pnE n d) (pnL n d) w := ⟨_, rfl⟩
  rw [← hP]
  have HO : Hid (Calls Try.prog 30 #[.int .i64 n, .int .i64 d] w fun e w' => ∃ a m c, e = .returned (.tuple #[.slice a m c, .int .i64 (poE n d : Nat)]) ∧ Hid (Nw w w' ∧ ((poE n d ≠ 0 ∧ a = none ∧ m = 0 ∧ c = 0) ∨ (poE n d = 0 ∧ ∃ g, w.heap.size ≤ g ∧ Ow g (.slice a m c) (poL n d) w')))) := putOctal_any n d w hn1 hn2
  have HB : Hid (∀ V, Calls Try.prog 49 #[.int .i64 n, .int .i64 d] V fun e w' => ∃ a m c, e = .returned (.tuple #[.slice a m c, .int .i64 (pbE n d : Nat)]) ∧ Hid (Nw V w' ∧ ((pbE n d ≠ 0 ∧ a = none ∧ m = 0 ∧ c = 0) ∨ (pbE n d = 0 ∧ ∃ g, V.heap.size ≤ g ∧ Ow g (.slice a m c) (pbL n d) w')))) := fun V => putBinary_any n d V hn1 hn2
  by_cases hz : poE n d = 0
  · have HF : Hid (∀ W a m c, Nw w W → (∃ g, w.heap.size ≤ g ∧ Ow g (.slice a m c) (poL n d) W) → P (.returned (.tuple #[.slice a m c, .int .i64 0])) W) := fun W a m c h1 h2 => by
      rw [hP]
      unfold pnE pnL
      rw [if_pos hz, if_pos hz]
      exact ⟨a, m, c, rfl, h1, .inr ⟨rfl, h2⟩⟩
    have hz' := tHid hz
    rw [hz] at HO
    clear hP HB hz
    go_enter Try.func31, Try.ntmps31
    go_wp2_with (first | (go_at_call 30; with_reducible refine HO.out.mono ?_; rintro e w1 ⟨a, m, c, rfl, H1⟩))
    obtain ⟨h1, h2⟩ := H1.out
    rcases h2 with ⟨h2, _⟩ | ⟨_, h2⟩
    · exact absurd rfl h2
    · exact HF.out _ _ _ _ h1 h2
  · have HF : Hid (∀ V W a m c, Nw w V → Nw V W → ((pbE n d ≠ 0 ∧ a = none ∧ m = 0 ∧ c = 0) ∨ (pbE n d = 0 ∧ ∃ g, V.heap.size ≤ g ∧ Ow g (.slice a m c) (pbL n d) W)) → P (.returned (.tuple #[.slice a m c, .int .i64 (pbE n d : Nat)])) W) := fun V W a m c h0 h1 h2 => by
      rw [hP]
      unfold pnE pnL
      rw [if_neg hz, if_neg hz]
      refine ⟨a, m, c, rfl, h0.trans h1, ?_⟩
      rcases h2 with h2 | ⟨e, g, hg, hO⟩
      · exact .inl h2
      · exact .inr ⟨e, g, Nat.le_trans h0.size hg, hO⟩
    obtain ⟨E, hE⟩ : ∃ E, poE n d = E := ⟨_, rfl⟩
    rw [hE] at HO hz
    have hz2 : ((E : Int) == 0) = false := by rw [beq_eq_false_iff_ne]; omega
    have hz3 : ¬ (E : Int) = 0 := by omega
    clear hP hE
    generalize pbE n d = B at *
    go_enter Try.func31, Try.ntmps31
    go_wp2_with (first | (go_at_call 30; with_reducible refine HO.out.mono ?_; rintro e w1 ⟨a, m, c, rfl, H1⟩) | (go_at_call 49; with_reducible refine (HB.out _).mono ?_; rintro e w2 ⟨a2, m2, c2, rfl, H2⟩))
    exact HF.out _ _ _ _ _ H1.out.1 H2.out.1 H2.out.2
/-! ### PutText -/
/-- A string's bytes. -/
def bys' (s : ByteArray) : List By := s.data.toList.map (fun u => BitVec.ofNat 8 u.toNat)
theorem bys_len (s : ByteArray) : (bys' s).length = s.size := by unfold bys'; rw [List.length_map]; rfl
theorem u8_of (u : UInt8) : u8 (BitVec.ofNat 8 u.toNat) = u := by
  have h := u.toNat_lt
  unfold u8
  rw [BitVec.toNat_ofNat, Nat.mod_eq_of_lt (by omega)]
  simp
theorem str_bys (s : ByteArray) : str (bys' s) = s := by
  apply ByteArray.ext
  unfold str bys'
  rw [List.map_map]
  have : (u8 ∘ fun u : UInt8 => BitVec.ofNat 8 u.toNat) = id := by funext u; exact u8_of u
  rw [this, List.map_id]
theorem bys_str (l : List By) : bys' (str l) = l := by
  have h : str (bys' (str l)) = str l := str_bys _
  exact str_inj.1 h
def noZ (s : ByteArray) : Bool := decide (¬ 0 ≤ Lib.indexByte s.data.toList 0)
def pxE (s : ByteArray) (d : Int) : Nat := if 1 ≤ d ∧ d ≤ 512 ∧ noZ s = true then (if (s.size : Int) ≤ d then 0 else 122) else 1
def pxL (s : ByteArray) (d : Int) : List By := bys' s ++ List.replicate (d.toNat - s.size) 0#8
/-- copy, folded behind a name. -/
def cpyT (tys : Array TypeId) (ty : TypeId) (args : Array Value) : Sem Value := Builtin.copy_ tys ty args
theorem cpyT_fold (tys : Array TypeId) (ty : TypeId) (args : Array Value) : Builtin.copy_ tys ty args = cpyT tys ty args := rfl
set_option maxRecDepth 100000 in
theorem copy_str (w : World) (g k : Nat) (s : ByteArray) (hs : s.size ≤ k) (hk : k ≤ 1000000) (hO : Ow g (.slice (some ⟨g, 0, none⟩) k k) (List.replicate k 0#8) w) :
    ∃ W, (∀ ty, (cpyT #[52, 9] ty #[.slice (some ⟨g, 0, none⟩) k k, .string s]).run Try.prog w = .ok (.int .i64 (s.size : Int)) W) ∧ Ow g (.slice (some ⟨g, 0, none⟩) k k) (bys' s ++ List.replicate (k - s.size) 0#8) W ∧ Fr (fun i => i = g) w W := by
  obtain ⟨xs, e, h2, h3, h4, h5⟩ := hO
  obtain ⟨i, hi, hz, hsz, hby⟩ := infoB
  have hxl : xs.length = k := by injection e with _ _ ec; exact ec.symm
  have hx : xs = List.replicate k 0#8 := by
    rw [List.length_replicate, List.take_of_length_le (by omega)] at h2; exact h2
  have hrun := fun ty => Lib.run_copy_row_string (P := Try.prog) w 52 9 ty 5 g 0 k k s (xs.map bv).toArray 5 Try.underlying52 (by rw [hi]; simp [hsz]) h5 hs (by simp; omega)
  refine ⟨_, hrun, ?_, (Fr.refl _ _).setRow _ _ (.inl rfl)⟩
  have ec : ((xs.map bv).toArray.toList.take 0 ++ Lib.byteCells s.data.toList ++ (xs.map bv).toArray.toList.drop (0 + s.size)).toArray = ((bys' s ++ List.replicate (k - s.size) 0#8).map bv).toArray := by
    congr 1
    rw [List.take_zero, List.nil_append, List.map_append, Nat.zero_add, hx]
    congr 1
    · unfold Lib.byteCells bys'
      rw [List.map_map]
      apply List.map_congr_left
      intro u _
      have h := u.toNat_lt
      simp only [Function.comp, bv, BitVec.toNat_ofNat]
      rw [Nat.mod_eq_of_lt (by omega)]
    · simp
  rw [ec]
  have hln : (bys' s ++ List.replicate (k - s.size) 0#8).length = k := by rw [List.length_append, bys_len, List.length_replicate]; omega
  refine ⟨_, ?_, ?_, ?_, ?_, setRow_heap w g _ _ 5 _ h5⟩
  · rw [hln]
  · rw [List.take_of_length_le (Nat.le_refl _)]
  · exact Nat.le_refl _
  · rw [hln]; omega
section
attribute [local go_sem ↓] cpyT_fold
set_option maxHeartbeats 4000000 in
set_option maxRecDepth 100000 in
theorem putText_any (s : ByteArray) (d : Int) (w : World) (hs : s.size ≤ 140737488351232) :
    Calls Try.prog 63 #[.string s, .int .i64 d] w (PutA (pxE s d) (pxL s d) w) := by
  obtain ⟨P, hP⟩ : ∃ P : Ending → World → Prop, P = PutA (pxE s d) (pxL s d) w := ⟨_, rfl⟩
  rw [← hP]
  have HC := tHid (contains_any s w hs)
  have HBAD : Hid (∀ E, pxE s d = E → E ≠ 0 → P (.returned (.tuple #[.slice none 0 0, .int .i64 (E : Nat)])) w) := fun E h h2 => by
    rw [hP, h]; exact ⟨none, 0, 0, rfl, Fr.refl _ _, .inl ⟨h2, rfl, rfl, rfl⟩⟩
  by_cases h1 : d < 1
  · have HF := tHid (HBAD.out 1 (by unfold pxE; rw [if_neg (by omega)]) (by decide))
    have d1 : decide (d < 1) = true := decide_eq_true h1
    clear hP HC HBAD
    go_enter Try.func63, Try.ntmps63
    go_wp2_with fail
    exact HF.out
  · have d1 : decide (d < 1) = false := decide_eq_false h1
    by_cases h2 : 512 < d
    · have HF := tHid (HBAD.out 1 (by unfold pxE; rw [if_neg (by omega)]) (by decide))
      have d2 : decide (512 < d) = true := decide_eq_true h2
      clear hP HC HBAD
      go_enter Try.func63, Try.ntmps63
      go_wp2_with fail
      exact HF.out
    · have d2 : decide (512 < d) = false := decide_eq_false h2
      by_cases h3 : 0 ≤ Lib.indexByte s.data.toList 0
      · have hz : noZ s = false := decide_eq_false (fun h => h h3)
        have HF := tHid (HBAD.out 1 (by unfold pxE; rw [if_neg (by rw [hz]; intro h; exact absurd h.2.2 (by decide))]) (by decide))
        rw [decide_eq_true h3] at HC
        clear hP HBAD hz h3
        go_enter Try.func63, Try.ntmps63
        go_wp2_with (first | (go_at_call 33; with_reducible refine HC.out.mono ?_; rintro e w1 ⟨rfl, rfl⟩))
        exact HF.out
      · have hz : noZ s = true := decide_eq_true h3
        rw [decide_eq_false h3] at HC
        by_cases h4 : d < (s.size : Int)
        · have HF := tHid (HBAD.out 122 (by unfold pxE; rw [if_pos ⟨by omega, by omega, hz⟩, if_neg (by omega)]) (by decide))
          clear hP HBAD hz h3
          go_enter Try.func63, Try.ntmps63
          go_wp2_with (first | (go_at_call 33; with_reducible refine HC.out.mono ?_; rintro e w1 ⟨rfl, rfl⟩))
          exact HF.out
        · obtain ⟨k, rfl⟩ : ∃ k : Nat, d = k := ⟨d.toNat, by omega⟩
          have hE : pxE s (k : Int) = 0 := by unfold pxE; rw [if_pos ⟨by omega, by omega, hz⟩, if_pos (by omega)]
          obtain ⟨W0, hmk, hO, hN⟩ := makeB k (by omega) w
          obtain ⟨W1, hcp, hO1, hF1⟩ := copy_str W0 w.heap.size k s (by omega) (by omega) hO
          have HF : Hid (P (.returned (.tuple #[.slice (some ⟨w.heap.size, 0, none⟩) k k, .int .i64 0])) W1) := by
            show P _ _
            rw [hP, hE]
            refine ⟨_, _, _, rfl, Fr.then hN hF1 (fun i hi => .inr (by omega)), .inr ⟨rfl, w.heap.size, Nat.le_refl _, ?_⟩⟩
            unfold pxL
            rw [Int.toNat_natCast]
            exact hO1
          clear hP HBAD hz h3 hO hN hO1 hF1 hE
          go_enter Try.func63, Try.ntmps63
          go_wp2_with (first | (go_at_call 33; with_reducible refine HC.out.mono ?_; rintro e w1 ⟨rfl, rfl⟩))
          exact HF.out
end
end Go.Proofs.Ytoegbaenheeogaa
