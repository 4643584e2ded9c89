import Derived.Test.YtpjnbhflnbhnoaaGreatDoorCards
import Derived.Test.YtpjnbhflnbhnoaaGreatDoorTie
import Derived.Test.YtpjnbhflnbhnoaaGreatDoorWac
import Derived.Test.YtpjnbhflnbhnoaaGreatDoorWad
import Derived.Test.YtpjnbhflnbhnoaaGreatDoorWbt
import Derived.Test.YtpjnbhflnbhnoaaGreatDoorWbu
import Derived.Deep.DeepHandedRow
import Derived.Lib.LaidTab
namespace Go.Proofs.YtpjnbhflnbhnoaaGreatDoor
namespace gzipBurst
open Go.ChangeShapes Go.WideShapes Go.ChangeAt Go.RowKit Go.Deep
set_option linter.unusedVariables false
theorem gTab : Tryz.prog.globalNamed "satchel/inflate.order" = some 5 := by kernel_rfl
theorem gTabType : (Tryz.prog.globals[5]?).map (·.type) = some 172 := by kernel_rfl
theorem gTurn : Tryz.prog.globalNamed "satchel/gzip.turned" = some 0 := by kernel_rfl
theorem gTurnType : (Tryz.prog.globals[0]?).map (·.type) = some 56 := by kernel_rfl
theorem cells16 : Tryz.prog.cellsOf 56 = 16 := by kernel_rfl
theorem cellsU : Tryz.prog.cellsOf 23 = 1 := by kernel_rfl
theorem tail {x : String × DataW Unit} {l : List (String × DataW Unit)} {W : World} (h : laidMet Tryz.prog (x :: l) W) : laidMet Tryz.prog l W := by
  obtain ⟨ps, ⟨g', t', cs, fuel, p, q, hg', ht', hvar, hd, hrest, hps⟩, hnd, hall⟩ := h
  subst hps
  exact ⟨q, hrest, (List.nodup_append.1 hnd).2.1, fun b off hm => hall b off (List.mem_append_right _ hm)⟩
theorem cells19 : Tryz.prog.cellsOf 172 = 19 := by kernel_rfl
theorem cells3 : Tryz.prog.cellsOf 3 = 1 := by kernel_rfl
/-- What the row's list gives: the tables. -/
theorem table {W : World} (h : laidMetH Tryz.prog Rows.gzipBurstRow.laid W) : TabT W ∧ Tab W := by
  have h1 : laidMet Tryz.prog Rows.gzipBurstRow.laid W := h
  have h3 := tail (tail h1)
  have ht : Lib.TabIs Tryz.prog W "satchel/inflate.order" .i64 [16, 17, 18, 0, 8, 7, 9, 6, 10, 5, 11, 4, 12, 3, 13, 2, 14, 1, 15] := Lib.tabIs_of_head gTab gTabType Tryz.underlying172 Tryz.underlying3 cells3 cells19 h3
  have h4 := tail h3
  have hu : Lib.TabIs Tryz.prog W "satchel/gzip.turned" .u32 [0, 498536548, 997073096, 651767980, 1994146192, 1802195444, 1303535960, 1342533948, 3988292384, 4027552580, 3604390888, 3412177804, 2607071920, 2262029012, 2685067896, 3183342108] := Lib.tabIs_of_head gTurn gTurnType Tryz.underlying56 Tryz.underlying23 cellsU cells16 h4
  constructor
  · intro i hi
    rcases (show i = 0 ∨ i = 1 ∨ i = 2 ∨ i = 3 ∨ i = 4 ∨ i = 5 ∨ i = 6 ∨ i = 7 ∨ i = 8 ∨ i = 9 ∨ i = 10 ∨ i = 11 ∨ i = 12 ∨ i = 13 ∨ i = 14 ∨ i = 15 by omega) with rfl | rfl | rfl | rfl | rfl | rfl | rfl | rfl | rfl | rfl | rfl | rfl | rfl | rfl | rfl | rfl
    · exact hu.cell gTurn 0 (by decide)
    · exact hu.cell gTurn 1 (by decide)
    · exact hu.cell gTurn 2 (by decide)
    · exact hu.cell gTurn 3 (by decide)
    · exact hu.cell gTurn 4 (by decide)
    · exact hu.cell gTurn 5 (by decide)
    · exact hu.cell gTurn 6 (by decide)
    · exact hu.cell gTurn 7 (by decide)
    · exact hu.cell gTurn 8 (by decide)
    · exact hu.cell gTurn 9 (by decide)
    · exact hu.cell gTurn 10 (by decide)
    · exact hu.cell gTurn 11 (by decide)
    · exact hu.cell gTurn 12 (by decide)
    · exact hu.cell gTurn 13 (by decide)
    · exact hu.cell gTurn 14 (by decide)
    · exact hu.cell gTurn 15 (by decide)
  · intro i hi
    rcases (show i = 0 ∨ i = 1 ∨ i = 2 ∨ i = 3 ∨ i = 4 ∨ i = 5 ∨ i = 6 ∨ i = 7 ∨ i = 8 ∨ i = 9 ∨ i = 10 ∨ i = 11 ∨ i = 12 ∨ i = 13 ∨ i = 14 ∨ i = 15 ∨ i = 16 ∨ i = 17 ∨ i = 18 by omega) with rfl | rfl | rfl | rfl | rfl | rfl | rfl | rfl | rfl | rfl | rfl | rfl | rfl | rfl | rfl | rfl | rfl | rfl | rfl
    · exact ht.cell gTab 0 (by decide)
    · exact ht.cell gTab 1 (by decide)
    · exact ht.cell gTab 2 (by decide)
    · exact ht.cell gTab 3 (by decide)
    · exact ht.cell gTab 4 (by decide)
    · exact ht.cell gTab 5 (by decide)
    · exact ht.cell gTab 6 (by decide)
    · exact ht.cell gTab 7 (by decide)
    · exact ht.cell gTab 8 (by decide)
    · exact ht.cell gTab 9 (by decide)
    · exact ht.cell gTab 10 (by decide)
    · exact ht.cell gTab 11 (by decide)
    · exact ht.cell gTab 12 (by decide)
    · exact ht.cell gTab 13 (by decide)
    · exact ht.cell gTab 14 (by decide)
    · exact ht.cell gTab 15 (by decide)
    · exact ht.cell gTab 16 (by decide)
    · exact ht.cell gTab 17 (by decide)
    · exact ht.cell gTab 18 (by decide)
set_option maxRecDepth 100000 in
theorem contract (H : Type) (enc : TypeId × Value → H) (W : World) (base : Nat) (args : Array Value) (ds gs : List (DataW H)) (before : List MemPlace)
    (hval : ∀ (j : Nat) t v, Tryz.f6.params[j]? = some t → args[j]? = some v → Value.okWide Tryz.prog W .any base t v)
    (hW : DataW.Whole enc Tryz.prog Tryz.f6.params.toList Rows.gzipBurstSpec.vars false W args.toList ds gs before)
    (hsz0 : (DataW.weightsEach Tryz.prog (Tryz.f6.params.toList ++ Rows.gzipBurstSpec.plain.varTypes Tryz.prog) (ds ++ gs)).all (· ≤ reachBytes) = true) (hL : TabT W ∧ Tab W) :
    Calls Tryz.prog 6 args W fun e W' => ∃ v, e = .returned v ∧ Rows.gzipBurstSpec.post enc Tryz.prog Tryz.f6 false true false false W args v W' := by
  have hW' := hW
  obtain ⟨p, q, hA0, hV, rfl, hfz, hnd⟩ := hW
  have hA : DataW.TrodAll enc Tryz.prog W 0 (fun _ => true) true Tryz.f6.params.toList args.toList ds p := hA0
  have hsz := hsz0
  rw [Tryz.params6] at hA hval hsz
  obtain ⟨v0, vs0, d0, ds0, p0, q0, hargs, rfl, rfl, h0, r0⟩ := trodAll_cons hA
  obtain ⟨v1, vs1, d1, ds1, p1, q1, rfl, rfl, rfl, h1, r1⟩ := trodAll_cons r0
  obtain ⟨v2, vs2, d2, ds2, p2, q2, rfl, rfl, rfl, h2, r2⟩ := trodAll_cons r1
  obtain ⟨v3, vs3, d3, ds3, p3, q3, rfl, rfl, rfl, h3, r3⟩ := trodAll_cons r2
  obtain ⟨rfl, rfl, rfl⟩ := trodAll_nil r3
  obtain rfl : args = #[v0, v1, v2, v3] := by cases args; simp_all
  obtain ⟨rfl, rfl⟩ := trodVars_none hV
  have hrb : reachBytes = 140737488351232 := by decide
  obtain ⟨a0, len0, cap0, rfl⟩ := okWide_slice Tryz.underlying22 (hval 0 22 v0 rfl rfl)
  have lt0 : ∀ x ∈ p0, x.block < W.heap.size := by obtain ⟨m, hm⟩ := h0; exact DataW.trod_lt m _ _ _ hm
  obtain ⟨l0, hl0, hll0, hd0⟩ := openedB h0
  have hbig0 : l0.length ≤ 140737488351232 := by
    rcases hd0 with hd | ⟨e, sp, rfl, he⟩
    · omega
    · have := sized_slice hsz (j := 0) (t := 22) rfl rfl Tryz.underlying22
      rw [bytes5] at this
      rw [hrb] at this
      omega
  subst hll0
  obtain ⟨cs1, rfl, hcs1⟩ := okWide_struct Tryz.underlying25 (hval 1 25 v1 rfl rfl)
  have lt1 : ∀ x ∈ p1, x.block < W.heap.size := by obtain ⟨m, hm⟩ := h1; exact DataW.trod_lt m _ _ _ hm
  obtain ⟨mb1, hmb1, hx1, hnm1, hcm1, htm1⟩ := openedMs hcs1 h1 hsz (j := 1) rfl rfl
  subst hmb1
  obtain ⟨m2, hm2⟩ := id h2
  obtain ⟨n2, hn2, _, hw2⟩ := DataW.trod_int Tryz.underlying3 hm2
  have lt2 : ∀ x ∈ p2, x.block < W.heap.size := DataW.trod_lt m2 _ _ _ hm2
  obtain ⟨x2, rfl⟩ := okWide_int Tryz.underlying3 (hval 2 3 v2 rfl rfl)
  have hx2 : x2 = n2 := by simpa [Value.cells] using hn2
  subst hx2
  obtain ⟨m3, hm3⟩ := id h3
  obtain ⟨n3, hn3, _, hw3⟩ := DataW.trod_int Tryz.underlying23 hm3
  have lt3 : ∀ x ∈ p3, x.block < W.heap.size := DataW.trod_lt m3 _ _ _ hm3
  obtain ⟨x3, rfl⟩ := okWide_int Tryz.underlying23 (hval 3 23 v3 rfl rfl)
  have hx3 : x3 = n3 := by simpa [Value.cells] using hn3
  subst hx3
  obtain ⟨t3, rfl⟩ : ∃ t : Nat, x3 = (t : Int) := ⟨x3.toNat, by have := hw3; simp [Lit.wf, IntKind.bits, IntKind.signed, IntKind.min, IntKind.max] at this; omega⟩
  clear hA0
  refine (wide W a0 cap0 l0 hl0 hbig0 mb1 hx1 hnm1 hcm1 htm1 x2 t3 hL.1 hL.2 (World.block_lt_of_cell? _ _ (hL.1 0 (by decide)))).mono fun e W' ⟨he, hN⟩ => ?_
  subst he
  have bel : Below W.heap.size W W' := Fr.below (Below.refl _ _) hN (Nat.le_refl _) (fun i h => h.elim)
  exact ⟨_, rfl, _, _, _, [], _, [], hW', trodAll_mk1 (shut_bool Tryz.underlying4 _), (trodAll_cons_mk (Below.trod laidOut (by kernel_rfl) (of_decide_eq_true (by kernel_rfl)) h0 bel lt0) (trodAll_cons_mk (Below.trod laidOut (by kernel_rfl) (of_decide_eq_true (by kernel_rfl)) h1 bel lt1) (trodAll_cons_mk (Below.trod laidOut (by kernel_rfl) (of_decide_eq_true (by kernel_rfl)) h2 bel lt2) (trodAll_cons_mk (Below.trod laidOut (by kernel_rfl) (of_decide_eq_true (by kernel_rfl)) h3 bel lt3) trodAll_mk0)))), rfl, bel.frame _, fun h => by cases h⟩
/-- Cells of a table, in a block that is there. -/
def putC (cs : Array Value) : Obj → Obj
  | .cells _ t frozen => .cells cs t frozen
  | o => o
/-- A world for the witness: the settled one, the tables holding what their initialisers lay. -/
noncomputable def laidWorld (os : Os) : World :=
  { World.holding Tryz.prog os ⟨#[], #[], []⟩ with heap := ((((((World.holding Tryz.prog os ⟨#[], #[], []⟩).heap.modify 0 (putC #[.int .u32 0, .int .u32 498536548, .int .u32 997073096, .int .u32 651767980, .int .u32 1994146192, .int .u32 1802195444, .int .u32 1303535960, .int .u32 1342533948, .int .u32 3988292384, .int .u32 4027552580, .int .u32 3604390888, .int .u32 3412177804, .int .u32 2607071920, .int .u32 2262029012, .int .u32 2685067896, .int .u32 3183342108])).modify 2 (putC #[.int .i64 16, .int .i64 17, .int .i64 18, .int .i64 0, .int .i64 8, .int .i64 7, .int .i64 9, .int .i64 6, .int .i64 10, .int .i64 5, .int .i64 11, .int .i64 4, .int .i64 12, .int .i64 3, .int .i64 13, .int .i64 2, .int .i64 14, .int .i64 1, .int .i64 15])).modify 3 (putC (Go.Pinned.utf8FirstZ.map (fun n : Nat => Value.int .u8 (n : Int))).toArray)).modify 4 (putC #[.int .u8 128, .int .u8 191, .int .u8 160, .int .u8 191, .int .u8 128, .int .u8 159, .int .u8 144, .int .u8 191, .int .u8 128, .int .u8 143, .int .u8 0, .int .u8 0, .int .u8 0, .int .u8 0, .int .u8 0, .int .u8 0, .int .u8 0, .int .u8 0, .int .u8 0, .int .u8 0, .int .u8 0, .int .u8 0, .int .u8 0, .int .u8 0, .int .u8 0, .int .u8 0, .int .u8 0, .int .u8 0, .int .u8 0, .int .u8 0, .int .u8 0, .int .u8 0])).modify 5 (putC #[.int .i64 16, .int .i64 17, .int .i64 18, .int .i64 0, .int .i64 8, .int .i64 7, .int .i64 9, .int .i64 6, .int .i64 10, .int .i64 5, .int .i64 11, .int .i64 4, .int .i64 12, .int .i64 3, .int .i64 13, .int .i64 2, .int .i64 14, .int .i64 1, .int .i64 15])) }
theorem laid_met (os : Os) : laidMet Tryz.prog Rows.gzipBurstRow.laid ((laidWorld os).forCall (fun _ _ => 0) ⟨#[], #[.slice none 0 0, .agg #[.string ⟨#[]⟩, .string ⟨#[]⟩, .slice none 0 0, .int .u32 0, .int .u8 0, .int .u8 0, .bool false, .bool false], .int .i64 0, .int .u32 0], []⟩).memory :=
  laidMet_of_run' 8 (by kernel_rfl) (by kernel_rfl)
theorem reads (os : Os) {H : Type} (enc : TypeId × Value → H) : ∃ places, DataW.whole enc Tryz.prog ((laidWorld os).forCall (fun _ _ => 0) ⟨#[], #[.slice none 0 0, .agg #[.string ⟨#[]⟩, .string ⟨#[]⟩, .slice none 0 0, .int .u32 0, .int .u8 0, .int .u8 0, .bool false, .bool false], .int .i64 0, .int .u32 0], []⟩).memory Tryz.f6.params.toList Rows.gzipBurstSpec.vars false #[Value.slice none 0 0, .agg #[.string ⟨#[]⟩, .string ⟨#[]⟩, .slice none 0 0, .int .u32 0, .int .u8 0, .int .u8 0, .bool false, .bool false], .int .i64 0, .int .u32 0].toList 8 = some ([.nil, .agg [.lit (.string []), .lit (.string []), .nil, .lit (.int .u32 0), .lit (.int .u8 0), .lit (.int .u8 0), .lit (.bool false), .lit (.bool false)], .lit (.int .i64 0), .lit (.int .u32 0)], [], places) :=
  ⟨[], by kernel_rfl⟩
set_option maxRecDepth 100000 in
theorem lifted (os : Os) (started : os.Started) (H : Type) (enc : TypeId × Value → H) (F : Stop.Interp) :
    ReturnsInHanded {} Tryz.checked os 6 .any ((OpenSpec.ofChange Rows.gzipBurstSpec).preRow enc Tryz.prog Tryz.f6 Rows.gzipBurstRow.domain false Rows.gzipBurstRow.laid) (((OpenSpec.ofChange Rows.gzipBurstSpec).at F).post enc Tryz.prog Tryz.f6 false true false false) := by
  obtain ⟨places, hx⟩ := reads os enc
  refine returnsInHanded_of_row (C := Tryz.checked) (s := (OpenSpec.ofChange Rows.gzipBurstSpec)) own started (by kernel_rfl) Tryz.func6
    (witness_row_at (enc := enc) (C := Tryz.checked) false (laidWorld os) #[.slice none 0 0, .agg #[.string ⟨#[]⟩, .string ⟨#[]⟩, .slice none 0 0, .int .u32 0, .int .u8 0, .int .u8 0, .bool false, .bool false], .int .i64 0, .int .u32 0] rfl (by kernel_rfl) (by kernel_rfl) (by kernel_rfl)
      (OpenSpec.preRow_of_cond 8 hx (by kernel_rfl) (fun k hk => by cases hk) (by kernel_rfl) (laid_met os))) ?_
  intro W base args ds gs before hval hW _ hcond hsz0 hL _ _
  exact contract H enc W base args ds gs before hval hW hsz0 (table hL)
theorem over : Rows.GzipBurstSaid :=
  OpenClaim.holds_of_cond 6 Tryz.f6 rfl rfl rfl rfl rfl rfl rfl ⟨rfl, rfl, rfl, rfl, rfl⟩ rfl rfl rfl rfl rfl (by kernel_rfl) Tryz.func6 (by kernel_rfl)
    (of_decide_eq_true (by kernel_rfl)) (by unfold Func.isWrapper; first | (rw [if_pos (by decide +kernel)]; kernel_rfl) | (rw [if_neg (by decide +kernel)]; exact ⟨rfl, rfl⟩))
    (fun os started H enc _ F => by rw [OpenClaim.pre_eq_preRow]; exact lifted os started H enc F)
/-- No parameter wants a stand-in; the program's own looks are off. -/
theorem plain (f : FuncId) (fn : Func) (hf : Tryz.pinned.checked.prog.funcNamed "satchel/satchellaw08.GzipBurst" = some f) (hfn : Tryz.pinned.checked.prog.funcs[f]? = some fn) :
    true = Tryz.pinned.checked.prog.looks [] ∧ ∀ (j : Nat) t, fn.params[j]? = some t → Tryz.pinned.checked.prog.wantsStandIn t = false := by
  obtain rfl : f = 6 := Option.some.inj ((show Tryz.prog.funcNamed "satchel/satchellaw08.GzipBurst" = some 6 by kernel_rfl).symm.trans hf) |>.symm
  obtain rfl : fn = Tryz.f6 := (Option.some.inj (Tryz.func6.symm.trans hfn)).symm
  refine ⟨by kernel_rfl, fun j t ht => ?_⟩
  rw [Tryz.params6] at ht
  have hm := Array.mem_of_getElem? ht
  simp only [Array.mem_def, List.mem_cons, List.not_mem_nil, or_false] at hm
  rcases hm with rfl | rfl | rfl | rfl
  · exact (show Tryz.prog.wantsStandIn 22 = false by kernel_rfl)
  · exact (show Tryz.prog.wantsStandIn 25 = false by kernel_rfl)
  · exact (show Tryz.prog.wantsStandIn 3 = false by kernel_rfl)
  · exact (show Tryz.prog.wantsStandIn 23 = false by kernel_rfl)
end gzipBurst
/-- THE CARD -/
theorem gzipBurst_card : Rows.GzipBurstCardSaid :=
  Claim7.holds_tied_plain_at .later [] _ _ _ _ gzipBurst.over (fun _ h => by cases h) (by kernel_rfl) (fun _ h => by cases h) gzipBurst_row_tie rfl ⟨rfl, rfl⟩ (by kernel_rfl) rfl gzipBurst.plain (by kernel_rfl)
#print axioms gzipBurst_card
end Go.Proofs.YtpjnbhflnbhnoaaGreatDoor
