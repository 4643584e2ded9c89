import Derived.Test.YtenkchhlaphocaaGreatDoorNjJ
import Derived.Test.YtenkchhlaphocaaGreatDoorNjE
import Derived.Test.YtenkchhlaphocaaGreatDoorNjS
import Derived.Lib.AtoiErrMem
namespace Go.Proofs.YtenkchhlaphocaaGreatDoor
open Go.RowKit Go.Sort
set_option linter.unusedVariables false
/-! ### strconv: what stands at package level, and its calls in our words -/
theorem nw_below {w w' : World} (h : Nw w w') : Below w.heap.size w w' := Fr.below (Below.refl _ _) h (Nat.le_refl _) (fun i h => h.elim)
theorem below_nw {w w' : World} (h : Below w.heap.size w w') : Nw w w' := ⟨h.os, h.tape, h.output, h.size, fun k hk _ => h.block k hk⟩
structure Env (w : World) : Prop where
  tab : Lib.TabIs Tryz.prog w "internal/strconv.uint64pow10" .u64 Lib.pow10Tab
  err : ∃ ev, w.cell? ⟨3, 0, none⟩ = some ev ∧ (ev = .nilIface ∨ ∃ te pe, ev = .iface te pe)
theorem Env.nw {w w' : World} (h : Env w) (f : Nw w w') : Env w' := by
  refine ⟨Lib.tabBelow_of_tabIs h.tab w' (nw_below f), ?_⟩
  obtain ⟨ev, h1, h2⟩ := h.err
  exact ⟨ev, f.cell h1, h2⟩
/-- What Print asks of what stands at package level. -/
structure EnvT (w : World) : Prop where
  tab : Lib.TabIs Tryz.prog w "internal/strconv.uint64pow10" .u64 Lib.pow10Tab
theorem Env.t {w : World} (h : Env w) : EnvT w := ⟨h.tab⟩
theorem EnvT.nw {w w' : World} (h : EnvT w) (f : Nw w w') : EnvT w' := ⟨Lib.tabBelow_of_tabIs h.tab w' (nw_below f)⟩
theorem nw_grow (w : World) (k : Nat) (os : Array Obj) : Nw w (grow (w.drewN k) os) :=
  ⟨rfl, rfl, rfl, by simp [grow, World.drewN], fun i hi _ => by
    show (w.heap ++ os)[i]? = _
    rw [Array.getElem?_append_left hi]⟩
theorem nw_putRow (w : World) (o : Obj) (dk : Array UInt8) (k : Nat) : Nw w ((putRow (fun (b : UInt8) => Value.int .u8 (b.toNat : Int)) (w.alloc o) w.heap.size 0 dk).drewN k) := by
  refine ⟨rfl, rfl, rfl, ?_, fun i hi _ => ?_⟩
  · simp [putRow, mapBlock, World.drewN]
  · show (putRow (fun (b : UInt8) => Value.int .u8 (b.toNat : Int)) (w.alloc o) w.heap.size 0 dk).heap[i]? = _
    simp only [putRow, mapBlock, Array.getElem?_modify]
    rw [if_neg (by omega)]
    exact Below.heap_alloc _ _ _ hi
theorem dec_str (n : Nat) : (⟨(Lib.decDigits n).toArray⟩ : ByteArray) = str (dec n) := by rw [dec_lib]; rfl
theorem fmtI_any (n : Nat) (h : n < 9223372036854775808) (w : World) (hE : Env w) : Calls Tryz.prog 43 #[.int .i64 n, .int .i64 10] w fun e w' => e = .returned (.string (str (dec n))) ∧ Nw w w' := by
  refine (sh_strconv_FormatInt_10 (n : Int) (by omega) (by omega) w hE.tab).mono ?_
  rintro e w' ⟨rfl, k, os, rfl⟩
  refine ⟨?_, nw_grow w k os⟩
  rw [← dec_str]
  congr 3
theorem parse_ok (l : Bs) (hd : ∀ c ∈ l, isD c) (hl : l ≠ []) (hn : l.length ≤ 140737488351232) (hv : val 0 l < 9223372036854775808) (w : World) : Calls Tryz.prog 41 #[.string (str l), .int .i64 10, .int .i64 64] w fun e w' => e = .returned (.tuple #[.int .i64 (val 0 l : Nat), .nilIface]) ∧ Nw w w' := by
  refine (sh_strconv_ParseInt_10_at64_ok (str l) (by rw [str_size]; omega) (val 0 l : Nat) (by rw [str_data, piB l hd hl, if_neg (by omega)]) w).mono ?_
  rintro e w' ⟨rfl, h | ⟨t, h⟩⟩
  · subst h; exact ⟨rfl, Fr.refl _ _⟩
  · subst h; exact ⟨rfl, below_nw (Lib.bytesWorld_below w 5 t)⟩
theorem parse_big (l : Bs) (hd : ∀ c ∈ l, isD c) (hl : l ≠ []) (hn : l.length ≤ 140737488351232) (hv : ¬ val 0 l < 9223372036854775808) (w : World) (hE : Env w) : Calls Tryz.prog 41 #[.string (str l), .int .i64 10, .int .i64 64] w fun e w' => ∃ z t p, e = .returned (.tuple #[.int .i64 z, .iface t p]) ∧ Nw w w' := by
  obtain ⟨ev, h1, h2⟩ := hE.err
  refine (sh_strconv_ParseInt_10_at64_range (str l) (by rw [str_size]; omega) (by rw [str_data, piB l hd hl, if_pos (by omega)]) ev w h1 h2).mono ?_
  rintro e w' ⟨N, rfl, _, _, h⟩
  exact ⟨_, _, _, rfl, below_nw h⟩
set_option maxHeartbeats 6400000 in
set_option maxRecDepth 100000 in
theorem ifmtU_any (u : Nat) (hu64 : u < 18446744073709551616) (w : World) (hE : Env w) : Calls Tryz.prog 42 #[.int .u64 u, .int .i64 10] w fun e w' => e = .returned (.string (str (dec u))) ∧ Nw w w' := by
  obtain ⟨P, hP⟩ : ∃ P : Ending → World → Prop, P = fun e w' => e = .returned (.string (str (dec u))) ∧ Nw w w' := ⟨_, rfl⟩
  rw [← hP]
  have HF : Hid (∀ V, Nw w V → P (.returned (.string ⟨(Lib.decDigits u).toArray⟩)) V) := fun V hV => by rw [hP, dec_str]; exact ⟨rfl, hV⟩
  clear hP
  by_cases hs : u < 100
  · have HS := tHid (sh_strconv_small u hs w)
    have hs' : (u : Int) < 100 := by omega
    go_enter Tryz.func42, Tryz.ntmps42
    go_wp2_with (first | (go_at_call 60; with_reducible refine HS.out.mono ?_; rintro e w' ⟨rfl, rfl⟩))
    first | exact HF.out _ (Fr.refl _ _) | (go_ret; exact HF.out _ (Fr.refl _ _))
  · have hs' : ¬ (u : Int) < 100 := by omega
    have hu1 : 1 ≤ u := by omega
    have hnd20 : Lib.nDigits u ≤ 20 := by have := Lib.numDigits_eq u hu1 hu64; split at this <;> omega
    have hal : Tryz.prog.arrayLen 99 = 24 := by simp [Program.arrayLen, Tryz.underlying99]
    have hsl1 : ∀ W, (Instr.sliceAt 99 (.pointer (some ⟨w.heap.size, 0, none⟩)) none (some (.int .i64 (Lib.nDigits u : Int))) none).run Tryz.prog W = .ok (.slice (some ⟨w.heap.size, 0, none⟩) (Lib.nDigits u) 24) W := fun W => by
      rw [run_sliceAt_array_h W 99 ⟨w.heap.size, 0, none⟩ (by simp [Program.arrayLen, Program.elem, Tryz.underlying99]) .i64 (Lib.nDigits u : Int) (by omega) (by rw [hal]; omega)]
      go_simp
    have hH0 := Lib.holds_zero0 w 99 (Lib.nDigits u) (by omega)
    have hfmt := sh_strconv_formatBase10 w.heap.size 0 24 u (Array.replicate (Lib.nDigits u) 0) (w.alloc (.cells Lib.zeros24 99)) hH0 (by rw [Array.size_replicate]; exact Lib.lt_pow_nDigits u) hu64 (by rw [Array.size_replicate]; omega)
    rw [Array.size_replicate] at hfmt
    have HH0 := tHid hH0
    have HFM := tHid hfmt
    have HND := tHid (sh_strconv_numDigits u hu1 hu64 _ (Lib.tabIs_alloc hE.tab (.cells Lib.zeros24 99)))
    clear hH0 hal hfmt
    go_enter Tryz.func42, Tryz.ntmps42
    go_wp2_with (first
      | (go_at_call 61; refine HND.out.mono ?_; rintro e w' ⟨rfl, rfl⟩))
    go_at_call 62
    refine HFM.out.mono ?_
    rintro e w' ⟨rfl, k, v', dk, rfl, hF⟩
    have hcv : (convert 32 9 (.slice (some ⟨w.heap.size, 0, none⟩) (Lib.nDigits u) 24)).run Tryz.prog ((putRow (fun (b : UInt8) => Value.int .u8 (b.toNat : Int)) (w.alloc (.cells Lib.zeros24 99)) w.heap.size 0 dk).drewN k) = .ok (.string ⟨(Lib.decDigits u).toArray⟩) ((putRow (fun (b : UInt8) => Value.int .u8 (b.toNat : Int)) (w.alloc (.cells Lib.zeros24 99)) w.heap.size 0 dk).drewN k) := by
      have h := run_convert_bytes_back (P := Tryz.prog) ((putRow (fun (b : UInt8) => Value.int .u8 (b.toNat : Int)) (w.alloc (.cells Lib.zeros24 99)) w.heap.size 0 dk).drewN k) 32 9 5 ⟨w.heap.size, 0, none⟩ 24 (Lib.decDigits u) Tryz.underlying32 Tryz.underlying5 Tryz.underlying9 (fun j hj => by
        rw [Lib.row_is_numeral hF j hj, Lib.add_plain, World.cell?_drewN]
        exact cell?_putRow (fun (b : UInt8) => Value.int .u8 (b.toNat : Int)) _ w.heap.size 0 _ dk HH0.out (by rw [hF.size, Array.size_replicate]) j (by rw [hF.size]; rw [Lib.decDigits_length] at hj; exact hj))
      rw [Lib.decDigits_length] at h
      exact h
    have HN : Hid (Nw w ((putRow (fun (b : UInt8) => Value.int .u8 (b.toNat : Int)) (w.alloc (.cells Lib.zeros24 99)) w.heap.size 0 dk).drewN k)) := nw_putRow w _ dk k
    generalize (putRow (fun (b : UInt8) => Value.int .u8 (b.toNat : Int)) (w.alloc (.cells Lib.zeros24 99)) w.heap.size 0 dk).drewN k = V at *
    clear HH0 HFM HND hF
    go_wp2_with fail
    first | exact HF.out _ HN.out | (go_ret; exact HF.out _ HN.out)
set_option maxHeartbeats 1000000 in
set_option maxRecDepth 100000 in
theorem fmtU_any (u : Nat) (hu64 : u < 18446744073709551616) (w : World) (hE : Env w) : Calls Tryz.prog 26 #[.int .u64 u, .int .i64 10] w fun e w' => e = .returned (.string (str (dec u))) ∧ Nw w w' := by
  obtain ⟨P, hP⟩ : ∃ P : Ending → World → Prop, P = fun e w' => e = .returned (.string (str (dec u))) ∧ Nw w w' := ⟨_, rfl⟩
  rw [← hP]
  have HF : Hid (∀ V, Nw w V → P (.returned (.string (str (dec u)))) V) := fun V hV => by rw [hP]; exact ⟨rfl, hV⟩
  have HJ := tHid (ifmtU_any u hu64 w hE)
  clear hP
  generalize str (dec u) = s at *
  go_enter Tryz.func26, Tryz.ntmps26
  go_wp2_with (first | (go_at_call 42; with_reducible refine HJ.out.mono ?_; rintro e w1 ⟨rfl, H1⟩; have H1 := tHid H1))
  first | exact HF.out _ H1.out | (go_ret; exact HF.out _ H1.out)
end Go.Proofs.YtenkchhlaphocaaGreatDoor
