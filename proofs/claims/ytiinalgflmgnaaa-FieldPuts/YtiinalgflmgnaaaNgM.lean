import Derived.Test.YtiinalgflmgnaaaNgL
namespace Go.Proofs.Ytiinalgflmgnaaa
open Go.RowKit
set_option linter.unusedVariables false
theorem same_step {w V : World} {E : Nat} {L : List By} {ga gb : Option Nat} {a1 : Option Addr} {n1 c1 : Nat} {a2 : Option Addr} {n2 c2 : Nat} (h1 : PutI E L ga a1 n1 c1 V) (h2 : PutI E L gb a2 n2 c2 V) (hL : L.length ≤ 1000000) (hw : Nw w V) (hga : ∀ k, ga = some k → w.heap.size ≤ k) (K : World → Prop) (hK : ∀ V', Fr (fun k => ga = some k) V V' → Nw w V' → K V') :
    Calls Try.prog 12 #[.slice a1 n1 c1, .slice a2 n2 c2, .int .i64 (E : Nat), .int .i64 (E : Nat)] V fun e w' => e = .returned (.bool true) ∧ Hid (K w') := by
  refine (same12_any E L ga gb a1 n1 c1 a2 n2 c2 V h1 h2 hL).mono ?_
  rintro e w' ⟨rfl, hf⟩
  exact ⟨rfl, hK w' hf (Fr.then hw hf (fun i hi => .inr (hga i hi)))⟩
theorem px_len (s : ByteArray) (d : Int) (h : pxE s d = 0) : (pxL s d).length ≤ 1000000 := by
  unfold pxE at h
  split at h
  · split at h
    · unfold pxL; rw [List.length_append, bys_len, List.length_replicate]; omega
    · cases h
  · cases h
/-- What is told is short. -/
theorem told_i {E : Nat} {L : List By} (hs : E = 0 → L.length ≤ 1000000) {g : Option Nat} {a : Option Addr} {n c : Nat} {W : World} (h : PutI E L g a n c W) : PutI E (told E L) g a n c W ∧ (told E L).length ≤ 1000000 := by
  unfold told
  rcases h with ⟨h0, q⟩ | ⟨h0, gg, h2, h3, h4⟩
  · rw [if_neg h0]; exact ⟨.inl ⟨h0, q⟩, by simp⟩
  · rw [if_pos h0]; exact ⟨.inr ⟨h0, gg, h2, h3, h4⟩, hs h0⟩
theorem po_len (n d : Int) (h : poE n d = 0) : (poL n d).length ≤ 1000000 := by
  unfold poE at h
  split at h
  · unfold poL; rw [List.length_append, ol_length, List.length_singleton]; omega
  · cases h
theorem pb_len (n d : Int) (h : pbE n d = 0) : (pbL n d).length ≤ 1000000 := by
  unfold pbE at h
  split at h
  · unfold pbL; rw [bfd_length]; omega
  · cases h
theorem pn_len (n d : Int) (h : pnE n d = 0) : (pnL n d).length ≤ 1000000 := by
  unfold pnE at h
  unfold pnL
  split at h
  · rename_i h0; rw [if_pos h0]; exact po_len n d h0
  · rename_i h0; rw [if_neg h0]; exact pb_len n d h
/-- A field that lies between two worlds. -/
structure Fld (E : Nat) (L : List By) (g : Option Nat) (a : Option Addr) (n c : Nat) (V W : World) : Prop where
  i : PutI E (told E L) g a n c W
  s : (told E L).length ≤ 1000000
  lo : ∀ k, g = some k → V.heap.size ≤ k
  hi : ∀ k, g = some k → k < W.heap.size
  nw : Nw V W
theorem fld_of {E : Nat} {L : List By} (hs : E = 0 → L.length ≤ 1000000) {V : World} {f : FuncId} {args : Array Value} (h : Calls Try.prog f args V (PutA E L V)) : Calls Try.prog f args V fun e w' => ∃ a n c g, e = .returned (.tuple #[.slice a n c, .int .i64 (E : Nat)]) ∧ Hid (Fld E L g a n c V w') := by
  refine h.mono fun e w' he => ?_
  obtain ⟨a, n, c, g, rfl, H⟩ := put_i he
  obtain ⟨k1, k2, k3⟩ := H.out
  obtain ⟨q1, q2⟩ := told_i hs k2
  exact ⟨a, n, c, g, rfl, q1, q2, k3, k2.lt, k1⟩
theorem Fld.at {E : Nat} {L : List By} {g : Option Nat} {a : Option Addr} {n c : Nat} {V W U : World} (h : Fld E L g a n c V W) (hU : Nw W U) : PutI E (told E L) g a n c U := h.i.kept hU (fun k _ h => h)
theorem apart {E E' : Nat} {L L' : List By} {g g' : Option Nat} {a a' : Option Addr} {n c n' c' : Nat} {V W V' W' : World} (h : Fld E L g a n c V W) (h' : Fld E' L' g' a' n' c' V' W') (hN : Nw W V') : ∀ k, g' = some k → ¬ g = some k := fun k hk hg => by
  have h1 := h.hi k hg
  have h2 := h'.lo k hk
  have h3 := hN.size
  omega
namespace fieldPuts
set_option maxHeartbeats 16000000 in
set_option maxRecDepth 100000 in
theorem walk (n d : Int) (s : ByteArray) (w : World) (h1 : -9223372036854775808 ≤ n) (h2 : n ≤ 9223372036854775807) (hs : s.size ≤ 140737488351232) :
    Calls Try.prog 3 #[.int .i64 n, .string s, .int .i64 d] w fun e w' => e = .returned (.bool true) ∧ Nw w w' := by
  obtain ⟨P, hP⟩ : ∃ P : Ending → World → Prop, P = fun e w' => e = .returned (.bool true) ∧ Nw w w' := ⟨_, rfl⟩
  rw [← hP]
  have HF : Hid (∀ W, Nw w W → P (.returned (.bool true)) W) := fun W hW => by rw [hP]; exact ⟨rfl, hW⟩
  clear hP
  have HA : Hid (∀ V, Calls Try.prog 4 #[.int .i64 n, .int .i64 d] V fun e w' => ∃ a m c g, e = .returned (.tuple #[.slice a m c, .int .i64 (poE n d : Nat)]) ∧ Hid (Fld (poE n d) (poL n d) g a m c V w')) := fun V => fld_of (po_len n d) (putOctal_any n d V h1 h2)
  have HB : Hid (∀ V, Calls Try.prog 5 #[.int .i64 n, .int .i64 d] V fun e w' => ∃ a m c g, e = .returned (.tuple #[.slice a m c, .int .i64 (poE n d : Nat)]) ∧ Hid (Fld (poE n d) (poL n d) g a m c V w')) := fun V => fld_of (po_len n d) (rputOctal_any n d V h1 h2)
  have HC : Hid (∀ V, Calls Try.prog 6 #[.int .i64 n, .int .i64 d] V fun e w' => ∃ a m c g, e = .returned (.tuple #[.slice a m c, .int .i64 (pbE n d : Nat)]) ∧ Hid (Fld (pbE n d) (pbL n d) g a m c V w')) := fun V => fld_of (pb_len n d) (putBinary_any n d V h1 h2)
  have HD : Hid (∀ V, Calls Try.prog 7 #[.int .i64 n, .int .i64 d] V fun e w' => ∃ a m c g, e = .returned (.tuple #[.slice a m c, .int .i64 (pbE n d : Nat)]) ∧ Hid (Fld (pbE n d) (pbL n d) g a m c V w')) := fun V => fld_of (pb_len n d) (rputBinary_any n d V h1 h2)
  have HG : Hid (∀ V, Calls Try.prog 8 #[.int .i64 n, .int .i64 d] V fun e w' => ∃ a m c g, e = .returned (.tuple #[.slice a m c, .int .i64 (pnE n d : Nat)]) ∧ Hid (Fld (pnE n d) (pnL n d) g a m c V w')) := fun V => fld_of (pn_len n d) (putNumber_any n d V h1 h2)
  have HH : Hid (∀ V, Calls Try.prog 9 #[.int .i64 n, .int .i64 d] V fun e w' => ∃ a m c g, e = .returned (.tuple #[.slice a m c, .int .i64 (pnE n d : Nat)]) ∧ Hid (Fld (pnE n d) (pnL n d) g a m c V w')) := fun V => fld_of (pn_len n d) (rputNumber_any n d V h1 h2)
  have HI : Hid (∀ V, Calls Try.prog 10 #[.string s, .int .i64 d] V fun e w' => ∃ a m c g, e = .returned (.tuple #[.slice a m c, .int .i64 (pxE s d : Nat)]) ∧ Hid (Fld (pxE s d) (pxL s d) g a m c V w')) := fun V => fld_of (px_len s d) (putText_any s d V hs)
  have HJ : Hid (∀ V, Calls Try.prog 11 #[.string s, .int .i64 d] V fun e w' => ∃ a m c g, e = .returned (.tuple #[.slice a m c, .int .i64 (pxE s d : Nat)]) ∧ Hid (Fld (pxE s d) (pxL s d) g a m c V w')) := fun V => fld_of (px_len s d) (rputText_any s d V hs)
  generalize poE n d = E1 at *
  generalize poL n d = L1 at *
  generalize pbE n d = E2 at *
  generalize pbL n d = L2 at *
  generalize pnE n d = E3 at *
  generalize pnL n d = L3 at *
  generalize pxE s d = E4 at *
  generalize pxL s d = L4 at *
  go_enter Try.func3, Try.ntmps3
  go_wp2_with fail
  go_loopg [7] 2 (fun kx v wr => ∃ r : Nat, r ≤ 2 ∧ 2 - r ≤ kx ∧ v = .int .i64 r ∧ Hid (Nw w wr))
  case atStart => exact ⟨0, by omega, by omega, rfl, Fr.refl _ _⟩
  case round =>
    obtain ⟨r, hr, hkx, rfl, HR⟩ := hrel
    by_cases hlt : r < 2
    · have hltr : (r : Int) < 2 := by omega
      go_upto_region 12 with (first
        | (go_at_call 4; with_reducible refine (HA.out _).mono ?_; rintro e x0 ⟨a0, m0, c0, g0, rfl, F0⟩)
        | (go_at_call 5; with_reducible refine (HB.out _).mono ?_; rintro e x1 ⟨a1, m1, c1, g1, rfl, F1⟩)
        | (go_at_call 6; with_reducible refine (HC.out _).mono ?_; rintro e x2 ⟨a2, m2, c2, g2, rfl, F2⟩)
        | (go_at_call 7; with_reducible refine (HD.out _).mono ?_; rintro e x3 ⟨a3, m3, c3, g3, rfl, F3⟩)
        | (go_at_call 8; with_reducible refine (HG.out _).mono ?_; rintro e x4 ⟨a4, m4, c4, g4, rfl, F4⟩)
        | (go_at_call 9; with_reducible refine (HH.out _).mono ?_; rintro e x5 ⟨a5, m5, c5, g5, rfl, F5⟩)
        | (go_at_call 10; with_reducible refine (HI.out _).mono ?_; rintro e x6 ⟨a6, m6, c6, g6, rfl, F6⟩)
        | (go_at_call 11; with_reducible refine (HJ.out _).mono ?_; rintro e x7 ⟨a7, m7, c7, g7, rfl, F7⟩))
      have n0 := HR.out
      have f0 := F0.out
      have f1 := F1.out
      have f2 := F2.out
      have f3 := F3.out
      have f4 := F4.out
      have f5 := F5.out
      have f6 := F6.out
      have f7 := F7.out
      have q0 : Nw x0 x7 := ((((((f1.nw).trans f2.nw).trans f3.nw).trans f4.nw).trans f5.nw).trans f6.nw).trans f7.nw
      have q1 : Nw x1 x7 := (((((f2.nw).trans f3.nw).trans f4.nw).trans f5.nw).trans f6.nw).trans f7.nw
      have q2 : Nw x2 x7 := ((((f3.nw).trans f4.nw).trans f5.nw).trans f6.nw).trans f7.nw
      have q3 : Nw x3 x7 := (((f4.nw).trans f5.nw).trans f6.nw).trans f7.nw
      have q4 : Nw x4 x7 := ((f5.nw).trans f6.nw).trans f7.nw
      have q5 : Nw x5 x7 := (f6.nw).trans f7.nw
      have q6 : Nw x6 x7 := f7.nw
      have nT : Nw w x7 := (n0.trans f0.nw).trans q0
      have lo0 : ∀ k, g0 = some k → w.heap.size ≤ k := fun k hk => Nat.le_trans n0.size (f0.lo k hk)
      have p02 := apart f0 f2 (f1.nw)
      have p03 := apart f0 f3 ((f1.nw).trans f2.nw)
      have p04 := apart f0 f4 (((f1.nw).trans f2.nw).trans f3.nw)
      have p05 := apart f0 f5 ((((f1.nw).trans f2.nw).trans f3.nw).trans f4.nw)
      have p06 := apart f0 f6 (((((f1.nw).trans f2.nw).trans f3.nw).trans f4.nw).trans f5.nw)
      have p07 := apart f0 f7 ((((((f1.nw).trans f2.nw).trans f3.nw).trans f4.nw).trans f5.nw).trans f6.nw)
      have p24 := apart f2 f4 (f3.nw)
      have p25 := apart f2 f5 ((f3.nw).trans f4.nw)
      have p26 := apart f2 f6 (((f3.nw).trans f4.nw).trans f5.nw)
      have p27 := apart f2 f7 ((((f3.nw).trans f4.nw).trans f5.nw).trans f6.nw)
      have p46 := apart f4 f6 (f5.nw)
      have p47 := apart f4 f7 ((f5.nw).trans f6.nw)
      have lo2 : ∀ k, g2 = some k → w.heap.size ≤ k := fun k hk => Nat.le_trans (((n0.trans f0.nw).trans (f1.nw)).size) (f2.lo k hk)
      have lo4 : ∀ k, g4 = some k → w.heap.size ≤ k := fun k hk => Nat.le_trans (((n0.trans f0.nw).trans (((f1.nw).trans f2.nw).trans f3.nw)).size) (f4.lo k hk)
      have lo6 : ∀ k, g6 = some k → w.heap.size ≤ k := fun k hk => Nat.le_trans (((n0.trans f0.nw).trans (((((f1.nw).trans f2.nw).trans f3.nw).trans f4.nw).trans f5.nw)).size) (f6.lo k hk)
      have HS1 : Hid (Calls Try.prog 12 #[.slice a0 m0 c0, .slice a1 m1 c1, .int .i64 (E1 : Nat), .int .i64 (E1 : Nat)] x7 fun e w' => e = .returned (.bool true) ∧ Hid (Calls Try.prog 12 #[.slice a2 m2 c2, .slice a3 m3 c3, .int .i64 (E2 : Nat), .int .i64 (E2 : Nat)] w' fun e w' => e = .returned (.bool true) ∧ Hid (Calls Try.prog 12 #[.slice a4 m4 c4, .slice a5 m5 c5, .int .i64 (E3 : Nat), .int .i64 (E3 : Nat)] w' fun e w' => e = .returned (.bool true) ∧ Hid (Calls Try.prog 12 #[.slice a6 m6 c6, .slice a7 m7 c7, .int .i64 (E4 : Nat), .int .i64 (E4 : Nat)] w' fun e w' => e = .returned (.bool true) ∧ Hid (Nw w w'))))) := by
        refine same_step (f0.at q0) (f1.at q1) f0.s nT lo0 _ (fun V1 hf1 hn1 => ?_)
        refine same_step (((f2.at q2).kept hf1 (fun k hk => p02 k hk))) (((f3.at q3).kept hf1 (fun k hk => p03 k hk))) f2.s hn1 lo2 _ (fun V2 hf2 hn2 => ?_)
        refine same_step ((((f4.at q4).kept hf1 (fun k hk => p04 k hk))).kept hf2 (fun k hk => p24 k hk)) ((((f5.at q5).kept hf1 (fun k hk => p05 k hk))).kept hf2 (fun k hk => p25 k hk)) f4.s hn2 lo4 _ (fun V3 hf3 hn3 => ?_)
        refine same_step (((((f6.at q6).kept hf1 (fun k hk => p06 k hk))).kept hf2 (fun k hk => p26 k hk)).kept hf3 (fun k hk => p46 k hk)) (((((f7.at (Fr.refl _ _)).kept hf1 (fun k hk => p07 k hk))).kept hf2 (fun k hk => p27 k hk)).kept hf3 (fun k hk => p47 k hk)) f6.s hn3 lo6 _ (fun V4 hf4 hn4 => hn4)
      clear f0 F0 f1 F1 f2 F2 f3 F3 f4 F4 f5 F5 f6 F6 f7 F7 q0 q1 q2 q3 q4 q5 q6 nT n0 lo0 lo2 lo4 lo6 p02 p03 p04 p05 p06 p07 p24 p25 p26 p27 p46 p47 HA HB HC HD HG HH HI HJ HF HR
      go_wp2_with (first
        | (go_at_call 12; with_reducible refine HS1.out.mono ?_; rintro e y1 ⟨rfl, HS2⟩)
        | (go_at_call 12; with_reducible refine HS2.out.mono ?_; rintro e y2 ⟨rfl, HS3⟩)
        | (go_at_call 12; with_reducible refine HS3.out.mono ?_; rintro e y3 ⟨rfl, HS4⟩)
        | (go_at_call 12; with_reducible refine HS4.out.mono ?_; rintro e y4 ⟨rfl, HS5⟩))
      go_roundg (2 - (r + 1))
      case measure => omega
      case rel => exact ⟨r + 1, by omega, by omega, by first | rfl | (congr 1), HS5⟩
    · have hltr : ¬ (r : Int) < 2 := by omega
      have HFF := tHid (HF.out _ HR.out)
      clear HA HB HC HD HG HH HI HJ HF HR
      go_wp2_with fail
      exact HFF.out
end fieldPuts
end Go.Proofs.Ytiinalgflmgnaaa
