import Derived.Test.YtpjnbhflnbhnoaaGreatDoorWaj
import Derived.Test.YtpjnbhflnbhnoaaGreatDoorWai
import Derived.Test.YtpjnbhflnbhnoaaGreatDoorWak
import Derived.Lib.MinMax
import Derived.Handy
namespace Go.Proofs.YtpjnbhflnbhnoaaGreatDoor
open Go.RowKit
set_option linter.unusedVariables false
set_option maxHeartbeats 8000000 in
set_option maxRecDepth 100000 in
theorem lnumber_any (g : Nat) (v : Value) (l : List By) (w : World) (h : SlB g v l w) (hl : l.length ≤ 8) :
    Calls Tryz.prog 57 #[v] w fun e w' => e = .returned (.int .u64 (le l)) ∧ w' = w := by
  obtain ⟨P, hP⟩ : ∃ P : Ending → World → Prop, P = fun e w' => e = .returned (.int .u64 (le l)) ∧ w' = w := ⟨_, rfl⟩
  rw [← hP]
  have HF : Hid (P (.returned (.int .u64 (le l))) w) := by rw [hP]; exact ⟨rfl, rfl⟩
  clear hP
  obtain ⟨o, c, rfl, hc, hc2, hr⟩ := h
  have HR : Hid (Rd g o l w) := hr
  have HLe : Hid (le (l.take l.length) = le l) := by rw [List.take_length]; rfl
  clear hr
  generalize hln : l.length = L at *
  have hln' : Hid (l.length = L) := hln
  clear hln
  go_enter Tryz.func57, Tryz.ntmps57
  go_wp2
  go_loopg [3, 8] L (fun kx n i wr => ∃ (I : Nat), I ≤ L ∧ L - I ≤ kx ∧ i = .int .i64 I ∧ n = .int .u64 (le (l.take I)) ∧ wr = w)
  case atStart => exact ⟨0, by omega, by omega, rfl, rfl, rfl⟩
  case round =>
    obtain ⟨I, hI, hkx, rfl, rfl, rfl⟩ := hrel
    by_cases hlt : I < L
    · have hlt' : I < l.length := by rw [hln'.out]; omega
      have x0 := HR.out I hlt'
      have hz : (I : Int) < (L : Int) := by omega
      have hb : l[I]? = some l[I] := List.getElem?_eq_getElem hlt'
      generalize l[I] = b at *
      have HE : Hid (bits .or .u64 ((le (l.take I) : Nat) : Int) (IntKind.u64.wrap ((b.toNat : Int) * 2 ^ (8 * I))) = ((le (l.take (I + 1)) : Nat) : Int)) := or_le l I b hlt' hb (by omega)
      clear HR HLe HF hln' hb hlt'
      generalize le (l.take I) = n0 at *
      go_wp2
      go_roundg (L - (I + 1))
      all_goals (first | omega | exact ⟨I + 1, by omega, by omega, rfl, by rw [HE.out], rfl⟩)
    · obtain rfl : I = L := by omega
      have hz : ¬ (I : Int) < (I : Int) := by omega
      rw [HLe.out]
      go_wp2
      exact HF.out
set_option maxHeartbeats 8000000 in
set_option maxRecDepth 100000 in
theorem lput_any (K : Nat → Prop) (w : World) (hK : ∀ k, K k → k < w.heap.size) (v : Value) (b : List By) (hb : Mine K v b w) (n k : Nat) (hn : n < 18446744073709551616) (hk : k ≤ 8) (hs : b.length ≤ 140000000000000) :
    Calls Tryz.prog 31 #[v, .int .u64 n, .int .i64 k] w fun e w' => ∃ v', e = .returned v' ∧ Mine K v' (b ++ lows n k) w' ∧ Fr (fun k => ¬ K k) w w' := by
  obtain ⟨P, hP⟩ : ∃ P : Ending → World → Prop, P = fun e w' => ∃ v', e = .returned v' ∧ Mine K v' (b ++ lows n k) w' ∧ Fr (fun k => ¬ K k) w w' := ⟨_, rfl⟩
  rw [← hP]
  have HF : Hid (∀ v' w', Mine K v' (b ++ lows n k) w' ∧ Fr (fun k => ¬ K k) w w' → P (.returned v') w') := fun v' w' h => by rw [hP]; exact ⟨v', rfl, h⟩
  clear hP
  have HI0 : Hid (Mine K v (b ++ lows n 0) w ∧ Fr (fun k => ¬ K k) w w) := ⟨by simp only [lows, List.append_nil]; exact hb, Fr.refl _ _⟩
  have HK : Hid (∀ k, K k → k < w.heap.size) := hK
  clear hb hK
  go_enter Tryz.func31, Tryz.ntmps31
  go_wp2
  go_loopg [0, 1, 8] k (fun kx x m i wr => ∃ (I : Nat), I ≤ k ∧ k - I ≤ kx ∧ i = .int .i64 I ∧ m = .int .u64 (n / 256 ^ I : Nat) ∧ Hid (Mine K x (b ++ lows n I) wr ∧ Fr (fun k => ¬ K k) w wr))
  case atStart => exact ⟨0, by omega, by omega, rfl, by simp, HI0.out⟩
  case round =>
    obtain ⟨I, hI, hkx, rfl, rfl, HI⟩ := hrel
    clear HI0
    by_cases hlt : I < k
    · obtain ⟨hM, hF⟩ := HI.out
      have hll : (b ++ lows n I).length ≤ 150000000000000 := by rw [List.length_append, lows_length]; omega
      have hq : n / 256 ^ I < 18446744073709551616 := Nat.lt_of_le_of_lt (Nat.div_le_self _ _) hn
      have hx : IntKind.u8.wrap ((n / 256 ^ I : Nat) : Int) = ((BitVec.ofNat 8 (n / 256 ^ I)).toNat : Int) := by rw [IntKind.wrap_u8, BitVec.toNat_ofNat]; omega
      obtain ⟨a, c, v', W, rfl, HAP, HN⟩ := mine_step K _ wr (fun k hk => Nat.lt_of_lt_of_le (HK.out k hk) hF.size) u0 hM hll (BitVec.ofNat 8 (n / 256 ^ I)) _ hx
      have HN' : Hid (Mine K v' (b ++ lows n (I + 1)) W ∧ Fr (fun k => ¬ K k) w W) := by
        refine ⟨?_, hF.trans HN.out.2⟩
        have := HN.out.1
        rw [List.append_assoc] at this
        rw [lows_succ]; exact this
      have hz : (I : Int) < (k : Int) := by omega
      have HD : Hid (((n / 256 ^ I : Nat) : Int) / 256 = ((n / 256 ^ (I + 1) : Nat) : Int)) := by
        show _ = _
        rw [Nat.pow_succ, ← Nat.div_div_eq_div_mul]; omega
      clear HI hM hF HN HK HF hll hx hn
      generalize (b ++ lows n I).length = ln at *
      generalize n / 256 ^ I = q at *
      go_wp2_with (first
          | (at_builtin; refine Lib.wpList_append_run _ rfl _ _ 22 22 rfl (.slice a ln c) (.slice (some ⟨wr.heap.size, 0, none⟩) 1 1) (by simp [Act.eval]) (by simp [Act.eval]) _ _ (HAP.out _) ?_))
      go_roundg (k - (I + 1))
      all_goals (first | omega | exact ⟨I + 1, by omega, by omega, rfl, by rw [HD.out], HN'⟩)
    · obtain rfl : I = k := by omega
      have hz : ¬ (I : Int) < (I : Int) := by omega
      have HF' : Hid (P (.returned u0) wr) := HF.out _ _ HI.out
      obtain ⟨a, c, rfl, _, _⟩ := HI.out.1.sl.form
      clear HI HK HF
      generalize (b ++ lows n I).length = ln at *
      go_wp2
      exact HF'.out

/-! ### The check sum -/
theorem u32_xor_n (a b : Nat) (ha : a < 4294967296) (hb : b < 4294967296) : bits .xor .u32 (a : Int) (b : Int) = ((a ^^^ b : Nat) : Int) := u32_xor_nat _ _ ha hb
theorem xor_full32 (n : Nat) (h : n < 4294967296) : bits .xor .u32 IntKind.u32.max (n : Int) = ((4294967295 - n : Nat) : Int) := by
  have e : IntKind.u32.max = ((4294967295 : Nat) : Int) := by decide
  rw [e, u32_xor_n _ _ (by decide) h]
  have : (BitVec.ofNat 32 4294967295 ^^^ BitVec.ofNat 32 n).toNat = 4294967295 - n := by
    rw [show BitVec.ofNat 32 4294967295 = BitVec.allOnes 32 by decide, BitVec.allOnes_xor, BitVec.toNat_not, BitVec.toNat_ofNat, Nat.mod_eq_of_lt h]
  rw [BitVec.toNat_xor, BitVec.toNat_ofNat, BitVec.toNat_ofNat, Nat.mod_eq_of_lt h] at this
  rw [show 4294967295 % 2 ^ 32 = 4294967295 by decide] at this
  rw [this]
def turnL : List Nat := [0, 498536548, 997073096, 651767980, 1994146192, 1802195444, 1303535960, 1342533948, 3988292384, 4027552580, 3604390888, 3412177804, 2607071920, 2262029012, 2685067896, 3183342108]
def tn (i : Nat) : Nat := turnL.getD i 0
theorem tn_lt (i : Nat) : tn i < 4294967296 := by
  unfold tn
  have h : ∀ x ∈ turnL, x < 4294967296 := by decide
  rw [List.getD_eq_getElem?_getD]
  cases e : turnL[i]? with
  | none => simp
  | some y => exact h y (List.mem_of_getElem? e)
def TabT (w : World) : Prop := ∀ i, i < 16 → w.cell? ⟨0, i, none⟩ = some (.int .u32 (tn i : Nat))
theorem TabT.kept {w w' : World} {Y : Nat → Prop} (h : TabT w) (f : Fr Y w w') (h0 : ¬ Y 0) : TabT w' := fun i hi => f.cellv (h i hi) h0
theorem TabT.nw {w w' : World} (h : TabT w) (f : Nw w w') : TabT w' := h.kept f (fun e => e)
def half (c : Nat) : Nat := (c / 16) ^^^ tn (c % 16)
def crcN (c : Nat) (x : By) : Nat := half (half (c ^^^ x.toNat))
def crcL (l : List By) : Nat := l.foldl crcN 4294967295
def sumS (l : List By) : Nat := 4294967295 - crcL l
theorem xor_lt32 {a b : Nat} (ha : a < 4294967296) (hb : b < 4294967296) : a ^^^ b < 4294967296 := Nat.xor_lt_two_pow (n := 32) ha hb
theorem half_lt {c : Nat} (h : c < 4294967296) : half c < 4294967296 := xor_lt32 (by omega) (tn_lt _)
theorem crcN_lt {c : Nat} (h : c < 4294967296) (x : By) : crcN c x < 4294967296 := half_lt (half_lt (xor_lt32 h (by have := x.isLt; omega)))
theorem fold_lt (l : List By) : ∀ {c : Nat}, c < 4294967296 → l.foldl crcN c < 4294967296 := by
  induction l with
  | nil => intro c h; exact h
  | cons x r ih => intro c h; exact ih (crcN_lt h x)
theorem crcL_lt (l : List By) : crcL l < 4294967296 := fold_lt l (by decide)
theorem crcL_snoc (l : List By) (x : By) : crcL (l ++ [x]) = crcN (crcL l) x := by simp [crcL, List.foldl_append]
set_option maxHeartbeats 8000000 in
set_option maxRecDepth 100000 in
theorem zsum_any (X : Nat → Prop) (w : World) (v : Value) (l : List By) (h : Sl X v l w) (hT : TabT w) (hl : l.length ≤ 200000000000000) :
    Calls Tryz.prog 12 #[v] w fun e w' => e = .returned (.int .u32 (sumS l : Nat)) ∧ w' = w := by
  obtain ⟨P, hP⟩ : ∃ P : Ending → World → Prop, P = fun e w' => e = .returned (.int .u32 (sumS l : Nat)) ∧ w' = w := ⟨_, rfl⟩
  rw [← hP]
  have HF : Hid (P (.returned (.int .u32 (sumS l : Nat))) w) := by rw [hP]; exact ⟨rfl, rfl⟩
  clear hP
  obtain ⟨a, c, rfl, hc, hc2⟩ := h.form
  have HR : Hid (∀ I, I < l.length → ∃ g o, a = some ⟨g, o, none⟩ ∧ w.cell? ⟨g, o + I, none⟩ = some (.int .u8 (l.getD I 0#8).toNat)) := fun I hI => by
    rcases h with ⟨a', e, rfl⟩ | ⟨g, _, o, c', e, _, _, hr⟩
    · simp at hI
    · injection e with e
      refine ⟨g, o, e, ?_⟩
      have := hr I hI
      rw [List.getD_eq_getElem?_getD, List.getElem?_eq_getElem hI]
      exact this
  have HT : Hid (TabT w) := hT
  have HL : Hid (crcL (l.take l.length) = crcL l) := by show _ = _; rw [List.take_length]
  have HS : Hid (∀ I, I < l.length → crcL (l.take (I + 1)) = crcN (crcL (l.take I)) (l.getD I 0#8)) := fun I hI => by
    rw [List.take_add_one, List.getElem?_eq_getElem hI, List.getD_eq_getElem?_getD, List.getElem?_eq_getElem hI]
    exact crcL_snoc _ _
  have HZ : Hid (sumS l = 4294967295 - crcL l) := rfl
  clear h hT
  generalize hln : l.length = L at *
  clear hln
  go_enter Tryz.func12, Tryz.ntmps12
  go_wp2
  go_loopg [3, 8] L (fun kx n i wr => ∃ (I : Nat), I ≤ L ∧ L - I ≤ kx ∧ i = .int .i64 I ∧ n = .int .u32 (crcL (l.take I) : Nat) ∧ wr = w)
  case atStart => exact ⟨0, by omega, by omega, rfl, rfl, rfl⟩
  case round =>
    obtain ⟨I, hI, hkx, rfl, rfl, rfl⟩ := hrel
    by_cases hlt : I < L
    · obtain ⟨g, o, rfl, x0⟩ := HR.out I hlt
      have HE := HS.out I hlt
      have hz : (I : Int) < (L : Int) := by omega
      have hcl := crcL_lt (l.take I)
      generalize l.getD I 0#8 = x at *
      have hxl := x.isLt
      obtain ⟨c0, hc0⟩ : ∃ c0, c0 = crcL (l.take I) := ⟨_, rfl⟩
      rw [← hc0] at HE hcl ⊢
      obtain ⟨c1, hc1⟩ : ∃ c1, c1 = c0 ^^^ x.toNat := ⟨_, rfl⟩
      have hc1l : c1 < 4294967296 := by rw [hc1]; exact xor_lt32 hcl (by omega)
      obtain ⟨c2, h2⟩ : ∃ c2, c2 = half c1 := ⟨_, rfl⟩
      have hc2l : c2 < 4294967296 := by rw [h2]; exact half_lt hc1l
      obtain ⟨c3, h3⟩ : ∃ c3, c3 = half c2 := ⟨_, rfl⟩
      have HE2 : Hid (crcL (l.take (I + 1)) = c3) := by show _ = _; rw [HE, crcN, ← hc1, ← h2, ← h3]
      have e1 : bits .xor .u32 (c0 : Int) (x.toNat : Int) = (c1 : Int) := by rw [u32_xor_n _ _ hcl (by omega), hc1]
      obtain ⟨d1, hd1⟩ : ∃ d1, d1 = c1 / 16 := ⟨_, rfl⟩
      obtain ⟨k1, hk1⟩ : ∃ k1, k1 = c1 % 16 := ⟨_, rfl⟩
      have e2 : (c1 : Int) / 16 = (d1 : Int) := by omega
      have e3 : bits .and .u32 (c1 : Int) 15 = (k1 : Int) := by
        have := u32_and_n c1 15 hc1l (by decide)
        rw [Nat.and_two_pow_sub_one_eq_mod c1 4] at this
        rw [hk1]; exact this
      have k1l : k1 < 16 := by omega
      have e4 := HT.out k1 k1l
      have e5 : bits .xor .u32 (d1 : Int) (tn k1 : Int) = (c2 : Int) := by rw [u32_xor_n _ _ (by omega) (tn_lt _), h2, half, hd1, hk1]
      obtain ⟨d2, hd2⟩ : ∃ d2, d2 = c2 / 16 := ⟨_, rfl⟩
      obtain ⟨k2, hk2⟩ : ∃ k2, k2 = c2 % 16 := ⟨_, rfl⟩
      have f2 : (c2 : Int) / 16 = (d2 : Int) := by omega
      have f3 : bits .and .u32 (c2 : Int) 15 = (k2 : Int) := by
        have := u32_and_n c2 15 hc2l (by decide)
        rw [Nat.and_two_pow_sub_one_eq_mod c2 4] at this
        rw [hk2]; exact this
      have k2l : k2 < 16 := by omega
      have f4 := HT.out k2 k2l
      have f5 : bits .xor .u32 (d2 : Int) (tn k2 : Int) = (c3 : Int) := by rw [u32_xor_n _ _ (by omega) (tn_lt _), h3, half, hd2, hk2]
      have z1 : (k1 : Int) < 16 := by omega
      have z2 : (k2 : Int) < 16 := by omega
      clear HR HS HF HL HZ HT HE hc0 hc1 h2 h3 hd1 hk1 hd2 hk2 hcl hc1l hc2l
      generalize tn k1 = t1 at *
      generalize tn k2 = t2 at *
      go_wp2
      go_roundg (L - (I + 1))
      all_goals (first | omega | exact ⟨I + 1, by omega, by omega, rfl, by rw [HE2.out], rfl⟩)
    · obtain rfl : I = L := by omega
      have hz : ¬ (I : Int) < (I : Int) := by omega
      rw [HL.out]
      have hcl := crcL_lt l
      have HQ : Hid (((4294967295 - crcL l : Nat) : Int) = ((sumS l : Nat) : Int)) := by show _ = _; rw [HZ.out]
      have e9 : bits .xor .u32 IntKind.u32.max ((crcL l : Nat) : Int) = ((sumS l : Nat) : Int) := by
        rw [xor_full32 _ hcl, HZ.out]
      clear HR HS HL HZ HT HQ
      generalize sumS l = sm at *
      generalize crcL l = cc at *
      go_wp2
      exact HF.out
end Go.Proofs.YtpjnbhflnbhnoaaGreatDoor
