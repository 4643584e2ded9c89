import Derived.Test.YtcogkhcfpgelhaaGreatVbk
import Derived.Test.YtcogkhcfpgelhaaGreatVbl
import Derived.Lib.SlBytesConst
namespace Go.Proofs.YtcogkhcfpgelhaaGreat
open Go.RowKit
set_option linter.unusedVariables false
set_option maxRecDepth 100000
variable {w w' D : World} {X : Nat → Prop} {fb mb : Nat}
theorem rcf {w : World} {rb : Nat} {a : Array Value} {T : Nat} {fr : Nat × Nat} (h : w.heap[rb]? = some (.cells a T fr)) (j : Nat) (v : Value) (hv : a[j]? = some v) : w.cell? ⟨rb, j, none⟩ = some v := by
  simp [World.cell?, h, hv]
def lT1 : List Ac := [] ++ [⟨1, 1, [97], 2, 0, [], 0, 0⟩]
def lT2 : List Ac := lT1 ++ [⟨2, 2, [102], 3, 0, [], 0, 0⟩]
def lT3 : List Ac := lT2 ++ [⟨5, 0, [], 3, 0, [], 2, 2⟩]
def lT4 : List Ac := lT3 ++ [⟨4, 1, [104], 3, 0, [], 0, 0⟩]
def lT5 : List Ac := lT4 ++ [⟨7, 2, [102], 3, 0, [], 0, 0⟩]
def lT6 : List Ac := lT5 ++ [⟨8, 1, [97], 2, 0, [], 0, 0⟩]
def lT7 : List Ac := lT6 ++ [⟨2, 1, [110], 4, 0, [], 0, 0⟩]
def lP5 : Pn := ⟨1, mt1, [], [], fun x => if x = [102] then none else if x = [102] then some 3 else none, 0, 1, 1⟩
def lQ6 : Int → Option Pn := leaQ lQ5 1 [97] 2 lP5
def lQ7 : Int → Option Pn := addQ lQ6 1 [110] 4 (newP 2 mt0 [])
abbrev Nox : Nat → Prop := fun _ => False
theorem lv0 (w : World) : Calls Tryz.prog 26 #[.int .i64 3, .int .i64 10] w fun e w' => ∃ fb mb, e = .returned (.tuple #[.pointer (some ⟨fb, 0, none⟩), .int .i64 0]) ∧ Hid (FsD w Nox fb mb ⟨3, 10, 0, 2⟩ rootQ 1 [] w') := by
  refine Calls.mono (new_any 3 10 w) ?_
  rintro e w' (⟨hn, _⟩ | ⟨_, fb, mb, rfl, hF⟩)
  · exact absurd hn (by decide)
  · exact ⟨fb, mb, rfl, FsD.of_new (fun _ h => h) hF⟩
theorem lv1 (H : FsD D X fb mb ⟨3, 10, 0, 2⟩ rootQ 1 [] w) : Calls Tryz.prog 52 #[.pointer (some ⟨fb, 0, none⟩), .int .i64 1, .string ⟨#[97]⟩, .agg #[.int .u32 493, .int .u32 0, .int .u32 0, .int .i64 0, .int .i32 0]] w fun e w' => e = .returned (.tuple #[.int .i64 2, .int .i64 0]) ∧ Hid (FsD D X fb mb ⟨3, 10, 0, 3⟩ lQ1 2 lT1 w') := by
  refine Calls.mono (mkdir_ok H l1b ⟨by show (0 : Int) ≤ 2; omega, by show (2 : Int) ≤ _; omega⟩ (by simp) (by omega) 1 ⟨by omega, by omega⟩ [97] (by simp) (by obtain ⟨p, a, b, c⟩ := l1c; exact ⟨p, a, b, by omega⟩) mt1 l1a) ?_
  rintro e w' ⟨rfl, h2, _⟩
  exact ⟨rfl, h2⟩
theorem lv2 (H : FsD D X fb mb ⟨3, 10, 0, 3⟩ lQ1 2 lT1 w) : Calls Tryz.prog 57 #[.pointer (some ⟨fb, 0, none⟩), .int .i64 2, .string ⟨#[102]⟩, .agg #[.int .u32 0, .int .u32 0, .int .u32 0, .int .i64 0, .int .i32 0]] w fun e w' => e = .returned (.tuple #[.int .i64 3, .int .i64 0]) ∧ Hid (FsD D X fb mb ⟨3, 10, 0, 4⟩ lQ2 3 lT2 w') := by
  refine Calls.mono (create_ok H l2b ⟨by show (0 : Int) ≤ 3; omega, by show (3 : Int) ≤ _; omega⟩ (by simp [lT1]) (by omega) 2 ⟨by omega, by omega⟩ [102] (by simp) (by obtain ⟨p, a, b, c⟩ := l2c; exact ⟨p, a, b, by omega⟩) mt0 l2a) ?_
  rintro e w' ⟨rfl, h2, _⟩
  exact ⟨rfl, h2⟩
theorem lv3 (H : FsD D X fb mb ⟨3, 10, 0, 4⟩ lQ2 3 lT2 w) : Calls Tryz.prog 57 #[.pointer (some ⟨fb, 0, none⟩), .int .i64 2, .string ⟨#[103]⟩, .agg #[.int .u32 0, .int .u32 0, .int .u32 0, .int .i64 0, .int .i32 0]] w fun e w' => e = .returned (.tuple #[.int .i64 0, .int .i64 105]) ∧ Hid (FsD D X fb mb ⟨3, 10, 0, 4⟩ lQ2 3 lT2 w') := by
  refine Calls.mono (create_no H l3b ⟨by show (0 : Int) ≤ 4; omega, by show (4 : Int) ≤ _; omega⟩ (by simp [lT2, lT1]) (by omega) 2 ⟨by omega, by omega⟩ [103] (by simp) (by obtain ⟨p, a, b, c⟩ := l3c; exact ⟨p, a, b, by omega⟩) mt0 l3a (by decide)) ?_
  rintro e w' ⟨rfl, h2, _⟩
  exact ⟨rfl, h2⟩
theorem lv4 (H : FsD D Nox fb mb ⟨3, 10, 0, 4⟩ lQ2 3 lT2 w) : Calls Tryz.prog 58 #[.pointer (some ⟨fb, 0, none⟩), .int .i64 3, .int .i64 2, .slice (some ⟨w.heap.size, 0, none⟩) 2 2] (w.alloc (.cells #[.int .u8 120, .int .u8 121] 5 (2, 3))) fun e w' => e = .returned (.int .i64 0) ∧ Hid (FsD D Nox fb mb ⟨3, 10, 4, 4⟩ lQ3 3 lT3 w') := by
  have hN : Nw w (w.alloc (.cells #[.int .u8 120, .int .u8 121] 5 (2, 3))) := (Fr.refl _ _).alloc _
  have hsz : (w.alloc (.cells #[.int .u8 120, .int .u8 121] 5 (2, 3))).heap.size = w.heap.size + 1 := by simp
  have H2 : FsD D (fun k => k = w.heap.size) fb mb ⟨3, 10, 0, 4⟩ lQ2 3 lT2 (w.alloc (.cells #[.int .u8 120, .int .u8 121] 5 (2, 3))) := H.more hN (fun k hk => .inr ⟨by omega, by omega⟩)
  have hsl : SlB w.heap.size (.slice (some ⟨w.heap.size, 0, none⟩) 2 2) lB (w.alloc (.cells #[.int .u8 120, .int .u8 121] 5 (2, 3))) := ⟨0, 2, rfl, by simp, by omega, fun j hj => by
    have hj2 : j < 2 := hj
    rcases (show j = 0 ∨ j = 1 by omega) with rfl | rfl
    · exact rcf (nh w _) 0 _ rfl
    · exact rcf (nh w _) 1 _ rfl⟩
  obtain ⟨p, p1, p2, p3, p4⟩ := l4b
  refine Calls.mono (write_ok H2 (by simp [lT2, lT1]) 3 ⟨by omega, by omega⟩ 2 ⟨by omega, by omega⟩ (some ⟨w.heap.size, 0, none⟩) 2 lB (.inr ⟨w.heap.size, fun e => ?_, hsl⟩) p1 (by rw [p2]; simp) ⟨by show (0 : Int) ≤ 0; omega, by show (0 : Int) ≤ _; omega⟩ ⟨by show (0 : Int) ≤ 10; omega, by show (10 : Int) ≤ _; omega⟩ l4a) ?_
  · rcases e with ⟨_, e⟩ | e
    · exact e rfl
    · omega
  · rintro e w' ⟨rfl, h2, _⟩
    refine ⟨rfl, ?_⟩
    have e1 : (2 : Int).toNat = 2 := rfl
    rw [e1, p3, p4] at h2
    obtain ⟨ot, L, a1, a2, a3, a4⟩ := h2
    exact ⟨ot, L, a1, fun k hk => ⟨(a2 k hk).1, fun h => h⟩, a3, fun k hk => hk.elim⟩
theorem lv5 (H : FsD D X fb mb ⟨3, 10, 4, 4⟩ lQ3 3 lT3 w) : Calls Tryz.prog 59 #[.pointer (some ⟨fb, 0, none⟩), .int .i64 1, .string ⟨#[104]⟩, .int .i64 3] w fun e w' => e = .returned (.int .i64 0) ∧ Hid (FsD D X fb mb ⟨3, 10, 4, 4⟩ lQ4 3 lT4 w') := by
  refine Calls.mono (link_ok H (by simp [lT3, lT2, lT1]) 1 ⟨by omega, by omega⟩ [104] (by simp) 3 ⟨by omega, by omega⟩ (by obtain ⟨p, a, b, c⟩ := l5c; exact ⟨p, a, b, by omega⟩) l5d ⟨by show (0 : Int) ≤ 1; omega, by show (1 : Int) ≤ _; omega⟩ l5a) ?_
  rintro e w' ⟨rfl, h2, _⟩
  exact ⟨rfl, h2⟩
theorem lv6 (H : FsD D X fb mb ⟨3, 10, 4, 4⟩ lQ4 3 lT4 w) : Calls Tryz.prog 39 #[.pointer (some ⟨fb, 0, none⟩), .int .i64 3, .int .i64 0, .int .i64 9] w fun e w' => ∃ a' c', e = .returned (.tuple #[.slice a' 4 c', .int .i64 0]) ∧ Hid (Sl (fun _ => False) (.slice a' 4 c') [0#8, 0#8, 120#8, 121#8] w') ∧ Hid (FsD D X fb mb ⟨3, 10, 4, 4⟩ lQ4 3 lT4 w') := by
  refine Calls.mono (read_ok (l := [0#8, 0#8, 120#8, 121#8]) H 3 ⟨by omega, by omega⟩ 0 9 ⟨by omega, by omega⟩ ⟨by omega, by omega⟩ l6b (by show 4 ≤ _; omega) l6a rfl) ?_
  rintro e w' ⟨a', c', rfl, h2, h3, _⟩
  exact ⟨a', c', rfl, h2, h3⟩
theorem lv7 (H : FsD D X fb mb ⟨3, 10, 4, 4⟩ lQ4 3 lT4 w) : Calls Tryz.prog 37 #[.pointer (some ⟨fb, 0, none⟩), .int .i64 3] w fun e w' => e = .returned (.tuple #[.agg #[.int .i64 3, .int .i64 2, .int .u32 0, .int .u32 0, .int .u32 0, .int .i64 0, .int .i32 0, .int .i64 2, .int .i64 4], .int .i64 0]) ∧ Hid (FsD D X fb mb ⟨3, 10, 4, 4⟩ lQ4 3 lT4 w' ∧ Nw w w') := by
  refine Calls.mono (stat_ok H 3 ⟨by omega, by omega⟩ l6b ⟨by show 4 ≤ _; omega, by show 0 ≤ _; omega, by show 0 ≤ _; omega⟩) ?_
  rintro e w' ⟨rfl, h2, h3⟩
  exact ⟨rfl, h2, h3⟩
theorem lv8 (H : FsD D X fb mb ⟨3, 10, 4, 4⟩ lQ4 3 lT4 w) : Calls Tryz.prog 60 #[.pointer (some ⟨fb, 0, none⟩), .int .i64 2, .string ⟨#[102]⟩] w fun e w' => e = .returned (.int .i64 0) ∧ Hid (FsD D X fb mb ⟨3, 10, 4, 4⟩ lQ5 3 lT5 w') := by
  refine Calls.mono (unlink_ok H (by simp [lT4, lT3, lT2, lT1]) 2 ⟨by omega, by omega⟩ [102] (by simp) l8c ⟨by omega, ⟨by omega, by omega⟩, by omega⟩ l6b ⟨by show (1 : Int) ≤ 2; omega, by show (2 : Int) ≤ _; omega, by show 4 ≤ _; omega⟩ ⟨by show (0 : Int) ≤ 4; omega, by show (4 : Int) ≤ _; omega⟩ l8b l8a) ?_
  rintro e w' ⟨rfl, h2, _⟩
  exact ⟨rfl, h2⟩
theorem l9e : lQ5 2 = some lP5 := rfl
theorem lv9 (H : FsD D X fb mb ⟨3, 10, 4, 4⟩ lQ5 3 lT5 w) : Calls Tryz.prog 61 #[.pointer (some ⟨fb, 0, none⟩), .int .i64 1, .string ⟨#[97]⟩] w fun e w' => e = .returned (.int .i64 0) ∧ Hid (FsD D X fb mb ⟨3, 10, 4, 4⟩ lQ6 2 lT6 w') := by
  refine Calls.mono (rmdir_ok H (by simp [lT5, lT4, lT3, lT2, lT1]) 1 ⟨by omega, by omega⟩ [97] (by simp) l9c ⟨by omega, ⟨by omega, by omega⟩, by omega⟩ l9e ⟨by show (1 : Int) ≤ 1; omega, by show (1 : Int) ≤ _; omega, by show 0 ≤ _; omega⟩ ⟨by show (0 : Int) ≤ 4; omega, by show (4 : Int) ≤ _; omega⟩ l9b l9a) ?_
  rintro e w' ⟨rfl, h2, _⟩
  exact ⟨rfl, h2⟩
theorem l10a : addE ⟨3, 10, 4, 4⟩ lQ6 2 1 [110] 2 mt0 [] = 0 := by decide
theorem l10b : lQ6 4 = none := rfl
theorem l10c : ∃ p, lQ6 1 = some p ∧ p.ents [110] = none ∧ p.ne = 1 := ⟨_, rfl, rfl, rfl⟩
theorem lv10 (H : FsD D X fb mb ⟨3, 10, 4, 4⟩ lQ6 2 lT6 w) : Calls Tryz.prog 57 #[.pointer (some ⟨fb, 0, none⟩), .int .i64 1, .string ⟨#[110]⟩, .agg #[.int .u32 0, .int .u32 0, .int .u32 0, .int .i64 0, .int .i32 0]] w fun e w' => e = .returned (.tuple #[.int .i64 4, .int .i64 0]) ∧ Hid (FsD D X fb mb ⟨3, 10, 4, 5⟩ lQ7 3 lT7 w') := by
  refine Calls.mono (create_ok H l10b ⟨by show (0 : Int) ≤ 4; omega, by show (4 : Int) ≤ _; omega⟩ (by simp [lT6, lT5, lT4, lT3, lT2, lT1]) (by omega) 1 ⟨by omega, by omega⟩ [110] (by simp) (by obtain ⟨p, a, b, c⟩ := l10c; exact ⟨p, a, b, by omega⟩) mt0 l10a) ?_
  rintro e w' ⟨rfl, h2, _⟩
  exact ⟨rfl, h2⟩
theorem lv11 (H : FsD D X fb mb ⟨3, 10, 4, 5⟩ lQ7 3 lT7 w) : Calls Tryz.prog 30 #[.pointer (some ⟨fb, 0, none⟩)] w fun e w' => ∃ a' c', e = .returned (.slice a' 7 c') ∧ Hid (Nw D w') := by
  refine Calls.mono (trace_ok H (by simp [lT7, lT6, lT5, lT4, lT3, lT2, lT1])) ?_
  rintro e w' ⟨a', c', rfl, ⟨_, _, _, _, h3, _⟩, _⟩
  exact ⟨a', c', rfl, h3⟩
end Go.Proofs.YtcogkhcfpgelhaaGreat

namespace Go.Proofs.YtcogkhcfpgelhaaGreat
open Go.RowKit
set_option linter.unusedVariables false
set_option maxRecDepth 100000
theorem xy_str : str [0#8, 0#8, 120#8, 121#8] = ⟨#[0, 0, 120, 121]⟩ := rfl
set_option maxHeartbeats 8000000 in
theorem lives_any (w : World) : Calls Tryz.prog 16 #[] w fun e w' => e = .returned (.bool true) ∧ Nw w w' := by
  obtain ⟨P, hP⟩ : ∃ P : Ending → World → Prop, P = fun e w' => e = .returned (.bool true) ∧ Nw w w' := ⟨_, rfl⟩
  rw [← hP]
  have HF : Hid (∀ V, Nw w V → P (.returned (.bool true)) V) := fun V hV => by rw [hP]; exact ⟨rfl, hV⟩
  clear hP
  have C0 := tHid (lv0 w)
  go_enter Tryz.func16, Tryz.ntmps16
  go_upto_region 2 with (first | (go_at_call 26; with_reducible refine C0.out.mono ?_; rintro e w1 ⟨fb, mb, rfl, H0⟩))
  clear C0
  have C1 := tHid (lv1 H0.out)
  go_upto_region 5 with (first | (go_at_call 52; with_reducible refine C1.out.mono ?_; rintro e w2 ⟨rfl, H1⟩))
  clear C1 H0
  have C2 := tHid (lv2 H1.out)
  go_upto_region 6 with (first | (go_at_call 57; with_reducible refine C2.out.mono ?_; rintro e w3 ⟨rfl, H2⟩))
  clear C2 H1
  have C3 := tHid (lv3 H2.out)
  go_upto_region 7 with (first | (go_at_call 57; with_reducible refine C3.out.mono ?_; rintro e w4 ⟨rfl, H3⟩))
  clear C3 H2
  have C4 := tHid (lv4 H3.out)
  have C5 : Hid (∀ V, Hid (FsD w Nox fb mb ⟨3, 10, 4, 4⟩ lQ3 3 lT3 V) → Calls Tryz.prog 59 #[.pointer (some ⟨fb, 0, none⟩), .int .i64 1, .string ⟨#[104]⟩, .int .i64 3] V fun e w' => e = .returned (.int .i64 0) ∧ Hid (FsD w Nox fb mb ⟨3, 10, 4, 4⟩ lQ4 3 lT4 w')) := fun V h => lv5 h.out
  have hcv : (convert 34 34 (.slice (some ⟨w4.heap.size, 0, none⟩) 2 2)).run Tryz.prog (w4.alloc (.cells #[.int .u8 120, .int .u8 121] 5)) = .ok (.slice (some ⟨w4.heap.size, 0, none⟩) 2 2) (w4.alloc (.cells #[.int .u8 120, .int .u8 121] 5 (2, 3))) := Lib.run_convert_bytes_const w4 34 5 #[.int .u8 120, .int .u8 121] 2 2 Tryz.underlying34 Tryz.underlying5
  go_upto_region 9 with (first | (go_at_call 58; with_reducible refine C4.out.mono ?_; rintro e w5 ⟨rfl, H4⟩) | (go_at_call 59; with_reducible refine (C5.out _ H4).mono ?_; rintro e w6 ⟨rfl, H5⟩))
  clear C4 C5 hcv H3 H4
  have C6 := tHid (lv6 H5.out)
  go_upto_region 10 with (first | (go_at_call 39; with_reducible refine C6.out.mono ?_; rintro e w7 ⟨a', c', rfl, HS, H6⟩))
  clear C6 H5
  have C7 := tHid (lv7 H6.out)
  go_upto_region 11 with (first | (go_at_call 37; with_reducible refine C7.out.mono ?_; rintro e w8 ⟨rfl, H7⟩))
  clear C7 H6
  obtain ⟨V, hV⟩ : ∃ V, w8.alloc (.cells #[.int .i64 3, .int .i64 2, .int .u32 0, .int .u32 0, .int .u32 0, .int .i64 0, .int .i32 0, .int .i64 2, .int .i64 4] 79) = V := ⟨_, rfl⟩
  have hN : Nw w8 V := by rw [← hV]; exact (Fr.refl _ _).alloc _
  have s7 : V.cell? ⟨w8.heap.size, 7, none⟩ = some (.int .i64 2) := by rw [← hV]; exact (rc (nh w8 _) 7 _ rfl).1
  have hcs : (convert 34 9 (.slice a' 4 c')).run Tryz.prog V = .ok (.string ⟨#[0, 0, 120, 121]⟩) V := by
    have := conv_any ((HS.out.nw H7.out.2).nw hN)
    rw [xy_str] at this
    exact this
  have C8 := tHid (lv8 (H7.out.1.nw hN))
  have C9 : Hid (∀ V, Hid (FsD w Nox fb mb ⟨3, 10, 4, 4⟩ lQ5 3 lT5 V) → Calls Tryz.prog 61 #[.pointer (some ⟨fb, 0, none⟩), .int .i64 1, .string ⟨#[97]⟩] V fun e w' => e = .returned (.int .i64 0) ∧ Hid (FsD w Nox fb mb ⟨3, 10, 4, 4⟩ lQ6 2 lT6 w')) := fun V h => lv9 h.out
  rw [hV]
  clear hV HS H7 hN
  go_upto_region 13 with (first | (go_at_call 60; with_reducible refine C8.out.mono ?_; rintro e w9 ⟨rfl, H8⟩) | (go_at_call 61; with_reducible refine (C9.out _ H8).mono ?_; rintro e wA ⟨rfl, H9⟩))
  clear C8 C9 H8 s7 hcs
  have CA := tHid (lv10 H9.out)
  go_upto_region 14 with (first | (go_at_call 57; with_reducible refine CA.out.mono ?_; rintro e wB ⟨rfl, HA⟩))
  have CB := tHid (lv11 HA.out)
  clear CA H9 HA
  go_wp2_with (first | (go_at_call 30; with_reducible refine CB.out.mono ?_; rintro e wC ⟨a2, c2, rfl, HB⟩))
  exact HF.out _ HB.out
end Go.Proofs.YtcogkhcfpgelhaaGreat
