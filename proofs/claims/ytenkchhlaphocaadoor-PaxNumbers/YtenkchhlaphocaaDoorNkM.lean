import Derived.Test.YtenkchhlaphocaaDoorNkK
import Derived.Test.YtenkchhlaphocaaDoorNkL
namespace Go.Proofs.YtenkchhlaphocaaDoor
open Go.RowKit
set_option linter.unusedVariables false
/-! ### PaxNumbers -/
set_option maxHeartbeats 16000000 in
set_option maxRecDepth 100000 in
theorem pnumbers_walk (w : World) (hE : Env w) (l : Bs) (hl : l.length ≤ 140737488351232) (n : Int) (h1 : -9223372036854775808 ≤ n) (h2 : n ≤ 9223372036854775807) (na : Int) (h3 : -2147483648 ≤ na) (h4 : na ≤ 2147483647) :
    Calls Tryd.prog 4 #[.string (str l), .int .i64 n, .int .i32 na] w fun e w' => e = .returned (.bool true) ∧ Nw w w' := by
  obtain ⟨P, hP⟩ : ∃ P : Ending → World → Prop, P = fun e w' => e = .returned (.bool true) ∧ Nw w w' := ⟨_, rfl⟩
  rw [← hP]
  have HF : Hid (∀ V, Nw w V → P (.returned (.bool true)) V) := fun V hV => by rw [hP]; exact ⟨rfl, hV⟩
  clear hP
  have A1 := tHid (num_any l hl w hE)
  have A2 := tHid (fun V => rnum_any l hl V)
  have A3 : Hid (∀ V, Nw w V → _) := fun V hV => time_any l hl V (hE.nw hV)
  have A4 := tHid (fun V => rtime_any l hl V)
  have A5 : Hid (∀ V, Nw w V → _) := fun V hV => putn_any n h1 h2 V (hE.nw hV)
  have A6 := tHid (fun V => rputn_any n h1 h2 V)
  have A7 : Hid (∀ V, Nw w V → _) := fun V hV => putt_any n na h1 h2 h3 h4 V (hE.nw hV)
  have A8 := tHid (fun V => rputt_any n na h1 h2 h3 h4 V)
  unfold tmV at A3 A4
  unfold ptV at A7 A8
  clear hE
  generalize str l = s at *
  generalize (numV l).1 = x1 at *
  generalize (numV l).2 = x2 at *
  generalize (timV l).1 = y1 at *
  generalize (timV l).2.1 = y2 at *
  generalize (timV l).2.2 = y3 at *
  generalize str (pnV n).1 = z1 at *
  generalize (pnV n).2 = z2 at *
  generalize str (putV n na).1 = u1 at *
  generalize (putV n na).2 = u2 at *
  go_enter Tryd.func4, Tryd.ntmps4
  go_wp2_with (first
    | (go_at_call 16; with_reducible refine A1.out.mono ?_; rintro e w1 ⟨rfl, H1⟩; have H1 := tHid H1)
    | (go_at_call 17; with_reducible refine (A2.out _).mono ?_; rintro e w2 ⟨rfl, rfl⟩)
    | (go_at_call 18; with_reducible refine (A3.out _ H1.out).mono ?_; rintro e w3 ⟨rfl, H3⟩; have H3 := tHid (Nw.trans H1.out H3))
    | (go_at_call 19; with_reducible refine (A4.out _).mono ?_; rintro e w4 ⟨rfl, H4⟩; have H4 := tHid (Nw.trans H3.out H4))
    | (go_at_call 20; with_reducible refine (A5.out _ H4.out).mono ?_; rintro e w5 ⟨rfl, H5⟩; have H5 := tHid (Nw.trans H4.out H5))
    | (go_at_call 21; with_reducible refine (A6.out _).mono ?_; rintro e w6 ⟨rfl, H6⟩; have H6 := tHid (Nw.trans H5.out H6))
    | (go_at_call 22; with_reducible refine (A7.out _ H6.out).mono ?_; rintro e w7 ⟨rfl, H7⟩; have H7 := tHid (Nw.trans H6.out H7))
    | (go_at_call 23; with_reducible refine (A8.out _).mono ?_; rintro e w8 ⟨rfl, H8⟩; have H8 := tHid (Nw.trans H7.out H8)))
  first | exact HF.out _ H8.out | (go_ret; exact HF.out _ H8.out)
end Go.Proofs.YtenkchhlaphocaaDoor
