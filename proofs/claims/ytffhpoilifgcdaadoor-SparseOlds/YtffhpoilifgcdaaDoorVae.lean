import Derived.Test.YtffhpoilifgcdaaDoorVad
import Derived.Lib.AsciiSet
import Derived.Laws.ResultCell
import Derived.Deep.WholeRow
import Derived.Lib.Strings
namespace Go.Proofs.YtffhpoilifgcdaaDoor
open Go.RowKit
set_option linter.unusedVariables false
def AS : Array Value := Lib.setCells [32, 0]
theorem as_size : AS.size = 256 := Lib.setCells_size _
theorem q_as : ∀ (x : By), ((UInt8.ofBitVec x == 32) || (UInt8.ofBitVec x == 0)) = decide (x = 32#8 ∨ x = 0#8) := by decide +kernel
theorem as_at (x : By) : AS[x.toNat]? = some (.bool (isBz x)) := by
  unfold AS
  have h := Lib.setCells_at [32, 0] (UInt8.ofBitVec x)
  have e : (UInt8.ofBitVec x).toNat = x.toNat := rfl
  rw [e] at h
  rw [h, List.contains_cons, List.contains_cons, List.contains_nil, Bool.or_false, q_as]
  rfl
theorem newHeap (w : World) (o : Obj) : (w.alloc o).heap[w.heap.size]? = some o := by
  show (w.heap.push o)[w.heap.size]? = some o
  simp
theorem as_one : AS.all (·.oneCell') = true := Lib.setCells_one _
theorem as_info : (Tryd.prog.info? 106).map (·.size) = some AS.size := by rw [as_size]; kernel_rfl
/-- The zero of the set, by a name of our own (for a seat whose load gives it none). -/
def zAs : Array Value := Lib.setCells ([] : List UInt8)
theorem zeroAs (w : World) : (zeroValue 106).run Tryd.prog w = .ok (.agg zAs) w := (zero_of_info (P := Tryd.prog) (t := 106) (v := .agg (Array.replicate 256 (.bool false))) (n := 256) (by kernel_rfl)).1 w
theorem zc53 : Tryd.zeroCells106 = Lib.setCells ([] : List UInt8) := by
  kernel_rfl
set_option maxHeartbeats 4000000 in
set_option maxRecDepth 100000 in
theorem mkAscii_any (w : World) : Calls Tryd.prog 78 #[.string ⟨#[32, 0]⟩] w fun e w' => e = .returned (.tuple #[.agg AS, .bool true]) ∧ w' = w.alloc (.cells AS 106) := by
  obtain ⟨P, hP⟩ : ∃ P : Ending → World → Prop, P = fun e w' => e = .returned (.tuple #[.agg AS, .bool true]) ∧ w' = w.alloc (.cells AS 106) := ⟨_, rfl⟩
  rw [← hP]
  have HF : Hid (P (.returned (.tuple #[.agg AS, .bool true])) (w.alloc (.cells AS 106))) := by rw [hP]; exact ⟨rfl, rfl⟩
  clear hP
  obtain ⟨cs, hcs⟩ : ∃ cs : ByteArray, cs = ⟨#[32, 0]⟩ := ⟨_, rfl⟩
  rw [← hcs]
  have hsz : cs.size = 2 := by rw [hcs]; rfl
  have e0 : ∀ h, (cs[0]'h).toNat = 32 := by subst hcs; intro h; rfl
  have e1 : ∀ h, (cs[1]'h).toNat = 0 := by subst hcs; intro h; rfl
  clear hcs
  skip
  go_enter Tryd.func78, Tryd.ntmps78
  go_wp2
  rw [zc53]
  go_loopg [4] 2 (fun g s4 wx => ∃ i : Nat, i + g = 2 ∧ s4 = .int .i64 i ∧ wx = w.alloc (.cells (Lib.setCells (([32, 0] : List UInt8).take i)) 106))
  case atStart => exact ⟨0, by omega, rfl, rfl⟩
  case round =>
    obtain ⟨i, hig, rfl, rfl⟩ := hrel
    cases gk with
    | zero =>
      obtain rfl : i = 2 := by omega
      have hAS : Lib.setCells (([32, 0] : List UInt8).take 2) = AS := rfl
      rw [hAS]
      have hld := run_loadVar_new (P := Tryd.prog) w 106 AS 256 4 Tryd.underlying106 as_info
      go_wp2_with (first
        | (refine wpList_load_row rfl 106 _ rfl w.heap.size (by first | rfl | simp [Act.eval]) 106 AS (0, 0) _ (newHeap w _) Tryd.underlying106 rfl as_info ?_)
        | (refine wpList_store_row rfl 106 _ _ rfl w.heap.size AS (by first | rfl | simp [Act.eval]) (by first | rfl | simp [Act.eval]) 106 AS (newHeap w _) as_info rfl as_one ?_; rw [World.setRow_alloc_new]))
      (try simp only [Exit.inBlock, Exit.then])
      refine bodyPost_ret (v := .tuple #[.agg AS, .bool true]) ?_ rfl HF.out
      rw [results_cell_tmp rfl]
      simp [asAddr, Result.andThen, hld]
    | succ g =>
      have hi : i = 0 ∨ i = 1 := by omega
      rcases hi with rfl | rfl
      · have hcell : (Lib.setCells (([32, 0] : List UInt8).take 0))[32]? = some (.bool false) := Lib.setCells_at [] 32
        generalize hC : Lib.setCells (([32, 0] : List UInt8).take 0) = C at *
        have HC : Hid (C.setIfInBounds 32 (.bool true) = Lib.setCells (([32, 0] : List UInt8).take 1)) := by rw [← hC]; rfl
        clear hC
        go_wp2
        go_roundg g
        case measure => omega
        case rel => exact ⟨1, by omega, by first | rfl | simp, by rw [HC.out]⟩
      · have hcell : (Lib.setCells (([32, 0] : List UInt8).take 1))[0]? = some (.bool false) := Lib.setCells_at [32] 0
        generalize hC : Lib.setCells (([32, 0] : List UInt8).take 1) = C at *
        have HC : Hid (C.setIfInBounds 0 (.bool true) = Lib.setCells (([32, 0] : List UInt8).take 2)) := by rw [← hC]; rfl
        clear hC
        go_wp2
        go_roundg g
        case measure => omega
        case rel => exact ⟨2, by omega, by first | rfl | simp, by rw [HC.out]⟩
set_option maxHeartbeats 2000000 in
set_option maxRecDepth 100000 in
theorem asciiHas_any (b : Nat) (x : By) (w : World) (hw : w.heap[b]? = some (.cells AS 106)) :
    Calls Tryd.prog 87 #[.pointer (some ⟨b, 0, none⟩), .int .u8 x.toNat] w fun e w' => e = .returned (.bool (isBz x)) ∧ w = w' := by
  obtain ⟨P, hP⟩ : ∃ P : Ending → World → Prop, P = fun e w' => e = .returned (.bool (isBz x)) ∧ w = w' := ⟨_, rfl⟩
  rw [← hP]
  have HF : Hid (P (.returned (.bool (isBz x))) w) := by rw [hP]; exact ⟨rfl, rfl⟩
  clear hP
  have hc : w.cell? ⟨b, x.toNat, none⟩ = some (.bool (isBz x)) := by
    have := as_at x
    simp only [World.cell?, hw]
    simpa using this
  have hx256 : (x.toNat : Int) < 256 := by have := x.isLt; omega
  clear hw
  generalize isBz x = v at *
  generalize x.toNat = y at *
  go_enter Tryd.func87, Tryd.ntmps87
  go_wp2
  exact HF.out
end Go.Proofs.YtffhpoilifgcdaaDoor

namespace Go.Proofs.YtffhpoilifgcdaaDoor
open Go.RowKit
set_option linter.unusedVariables false
theorem trR_snoc (l : List By) (x : By) (h : isBz x = false) : trR (l ++ [x]) = l ++ [x] := by
  unfold trR
  rw [List.reverse_append, List.reverse_singleton, List.singleton_append, List.dropWhile_cons, if_neg (by rw [h]; decide), List.reverse_cons, List.reverse_reverse]
theorem take_snoc (b : List By) (m : Nat) (h : m < b.length) : b.take (m + 1) = b.take m ++ [b[m]] := by
  rw [List.take_add_one, List.getElem?_eq_getElem h]; rfl
set_option maxHeartbeats 4000000 in
set_option maxRecDepth 100000 in
theorem trimrA_any {X : Nat → Prop} (w : World) (a : Option Addr) (n c : Nat) (b : List By) (hb : Sl X (.slice a n c) b w) (ab : Nat) (hab : w.heap[ab]? = some (.cells AS 106)) :
    Calls Tryd.prog 79 #[.slice a n c, .pointer (some ⟨ab, 0, none⟩)] w fun e w' => ∃ M : Nat, e = .returned (.slice a M c) ∧ Hid (M ≤ n ∧ b.take M = trR b) ∧ w = w' := by
  obtain ⟨P, hP⟩ : ∃ P : Ending → World → Prop, P = fun e w' => ∃ M : Nat, e = .returned (.slice a M c) ∧ Hid (M ≤ n ∧ b.take M = trR b) ∧ w = w' := ⟨_, rfl⟩
  rw [← hP]
  have HF : Hid (∀ M, M ≤ n → b.take M = trR b → P (.returned (.slice a M c)) w) := fun M h1 h2 => by rw [hP]; exact ⟨M, rfl, ⟨h1, h2⟩, rfl⟩
  clear hP
  obtain ⟨hbn, k1, k2⟩ := sl_len hb
  have HR : Hid (∀ I, (hI : I < b.length) → ∃ g o, a = some ⟨g, o, none⟩ ∧ w.cell? ⟨g, o + I, none⟩ = some (.int .u8 b[I].toNat)) := fun I hI => by
    rcases hb with ⟨a', e, e2⟩ | ⟨g, _, o, c', e, e1, e2, hr⟩
    · subst e2; simp at hI
    · injection e with e _ ec
      exact ⟨g, o, e, hr I hI⟩
  have HC := tHid (fun x : By => asciiHas_any ab x w hab)
  have HBN := tHid hbn
  clear hb hab hbn
  go_enter Tryd.func79, Tryd.ntmps79
  go_wp2_with fail
  go_loopg [0] n (fun kx v wr => ∃ M : Nat, M ≤ n ∧ M ≤ kx ∧ v = .slice a M c ∧ wr = w ∧ Hid (trR (b.take M) = trR b))
  case atStart => exact ⟨n, by omega, by omega, rfl, rfl, by show _ = _; rw [List.take_of_length_le (by rw [HBN.out]; exact Nat.le_refl _)]⟩
  case round =>
    obtain ⟨M, hM, hkx, rfl, rfl, HZ⟩ := hrel
    by_cases h0 : M = 0
    · subst h0
      have HF2 := tHid (HF.out 0 (by omega) (by rw [← HZ.out]; rfl))
      clear HF HR HZ HC HBN
      go_wp2_with fail
      exact HF2.out
    · obtain ⟨M1, rfl⟩ : ∃ M1, M = M1 + 1 := ⟨M - 1, by omega⟩
      have hlt : M1 < b.length := by have := HBN.out; omega
      obtain ⟨g, o, rfl, x0⟩ := HR.out M1 hlt
      have hz := HZ.out
      rw [take_snoc b M1 hlt] at hz
      have z1 : (0 : Int) < ((M1 + 1 : Nat) : Int) := by omega
      have z2 : ((M1 + 1 : Nat) : Int) - 1 = (M1 : Int) := by omega
      have HCx := tHid (HC.out b[M1])
      cases hx : isBz b[M1] with
      | true =>
        rw [trR_all [b[M1]] (by rw [List.all_cons, hx]; rfl)] at hz
        have HN := tHid hz
        rw [hx] at HCx
        clear HF HR HZ HC HBN hz hx h0
        generalize b[M1].toNat = x at *
        go_wp2_with (first | (go_at_call 87; with_reducible refine HCx.out.mono ?_; rintro e w1 ⟨rfl, rfl⟩))
        go_roundg M1
        all_goals (first | omega | exact ⟨M1, by omega, by omega, rfl, rfl, HN⟩)
      | false =>
        rw [trR_snoc _ _ hx] at hz
        have HF2 := tHid (HF.out (M1 + 1) hM (by rw [take_snoc b M1 hlt]; exact hz))
        rw [hx] at HCx
        clear HF HR HZ HC HBN hz hx h0
        generalize b[M1].toNat = x at *
        go_wp2_with (first | (go_at_call 87; with_reducible refine HCx.out.mono ?_; rintro e w1 ⟨rfl, rfl⟩))
        exact HF2.out
theorem trR_nil : trR [] = [] := rfl
set_option maxHeartbeats 4000000 in
set_option maxRecDepth 100000 in
/-- bytes.TrimRight of blanks and zeros. -/
theorem trimr2_any {X : Nat → Prop} (w : World) (a : Option Addr) (n c : Nat) (b : List By) (hb : Sl X (.slice a n c) b w) :
    Calls Tryd.prog 68 #[.slice a n c, .string ⟨#[32, 0]⟩] w fun e w' => ∃ M : Nat, e = .returned (.slice a M c) ∧ Hid (M ≤ n ∧ b.take M = trR b) ∧ Hid (Nw w w') := by
  obtain ⟨P, hP⟩ : ∃ P : Ending → World → Prop, P = fun e w' => ∃ M : Nat, e = .returned (.slice a M c) ∧ Hid (M ≤ n ∧ b.take M = trR b) ∧ Hid (Nw w w') := ⟨_, rfl⟩
  rw [← hP]
  have HF : Hid (∀ M W, M ≤ n → b.take M = trR b → Nw w W → P (.returned (.slice a M c)) W) := fun M W h1 h2 h3 => by rw [hP]; exact ⟨M, rfl, ⟨h1, h2⟩, h3⟩
  clear hP
  obtain ⟨hbn, k1, k2⟩ := sl_len hb
  by_cases h0 : n = 0
  · subst h0
    have HF2 := tHid (HF.out 0 w (by omega) (by rw [List.length_eq_zero_iff.1 hbn]; rfl) (Fr.refl _ _))
    clear HF hb
    go_enter Tryd.func68, Tryd.ntmps68
    go_wp2_with fail
    first | exact HF2.out | (go_ret; exact HF2.out)
  · have z1 : ((n : Int) == 0) = false := by rw [beq_eq_false_iff_ne]; omega
    have z2 : ¬ (n : Int) = 0 := by omega
    have hN1 : Nw w (w.alloc (.cells AS 106)) := (Fr.refl _ _).alloc _
    have hN2 : Nw w ((w.alloc (.cells AS 106)).alloc (.cells AS 106)) := ((Fr.refl _ _).alloc _).alloc _
    have HN2 := tHid hN2
    have hsz1 : (w.alloc (.cells AS 106)).heap.size = w.heap.size + 1 := by simp
    have HM := tHid (mkAscii_any w)
    have hnew : ((w.alloc (.cells AS 106)).alloc (.cells Tryd.zeroCells106 106)).heap[w.heap.size + 1]? = some (.cells Tryd.zeroCells106 106) := by
      rw [← hsz1]; exact newHeap _ _
    have hset : ((w.alloc (.cells AS 106)).alloc (.cells Tryd.zeroCells106 106)).setRow (w.heap.size + 1) AS = (w.alloc (.cells AS 106)).alloc (.cells AS 106) := by
      rw [← hsz1]; exact World.setRow_alloc_new _ _ _ _
    have hzs : Tryd.zeroCells106.size = AS.size := by rw [zc53, Lib.setCells_size, as_size]
    have hnew2 : ((w.alloc (.cells AS 106)).alloc (.cells AS 106)).heap[w.heap.size + 1]? = some (.cells AS 106) := by
      rw [← hsz1]; exact newHeap _ _
    have HT := tHid (trimrA_any _ a n c b (hb.nw hN2) (w.heap.size + 1) hnew2)
    have HZS := tHid hzs
    have HW := tHid hnew
    have HS := tHid hset
    obtain ⟨cs, hcs⟩ : ∃ cs : ByteArray, cs = ⟨#[32, 0]⟩ := ⟨_, rfl⟩
    rw [← hcs] at HM ⊢
    have hsz : cs.size = 2 := by rw [hcs]; rfl
    have hem : cs.toList.isEmpty = false := by rw [hcs, ByteArray.toList_eq]; rfl
    clear hcs hb hnew hset hzs hnew2 hN1 hN2 h0 hbn
    skip
    go_enter Tryd.func68, Tryd.ntmps68
    go_wp2_with (first
      | (go_at_call 78; with_reducible refine HM.out.mono ?_; rintro e w1 ⟨rfl, rfl⟩)
      | (refine wpList_store_row rfl 106 _ _ rfl (w.heap.size + 1) AS (by first | rfl | simp [Act.eval]) (by first | rfl | simp [Act.eval]) 106 _ HW.out as_info HZS.out as_one ?_; rw [HS.out])
      | (go_at_call 79; with_reducible refine HT.out.mono ?_; rintro e w2 ⟨M, rfl, HM2, rfl⟩))
    have HF2 := tHid (HF.out M _ HM2.out.1 HM2.out.2 HN2.out)
    first | exact HF2.out | (go_ret; exact HF2.out)
end Go.Proofs.YtffhpoilifgcdaaDoor

namespace Go.Proofs.YtffhpoilifgcdaaDoor
open Go.RowKit
set_option linter.unusedVariables false
theorem bz_cases (p : Bool) : p = true ∨ p = false := by cases p <;> simp
set_option maxHeartbeats 4000000 in
set_option maxRecDepth 100000 in
/-- bytes.TrimLeft of blanks. -/
theorem triml_any {X : Nat → Prop} (w : World) (a : Option Addr) (n c : Nat) (b : List By) (hb : Sl X (.slice a n c) b w) :
    Calls Tryd.prog 69 #[.slice a n c, .string ⟨#[32]⟩] w fun e w' => ∃ a' n' c', e = .returned (.slice a' n' c') ∧ Hid (Sl X (.slice a' n' c') (b.dropWhile isBl) w) ∧ w = w' := by
  obtain ⟨P, hP⟩ : ∃ P : Ending → World → Prop, P = fun e w' => ∃ a' n' c', e = .returned (.slice a' n' c') ∧ Hid (Sl X (.slice a' n' c') (b.dropWhile isBl) w) ∧ w = w' := ⟨_, rfl⟩
  rw [← hP]
  have HF : Hid (∀ a' n' c', Sl X (.slice a' n' c') (b.dropWhile isBl) w → P (.returned (.slice a' n' c')) w) := fun a' n' c' h => by rw [hP]; exact ⟨a', n', c', rfl, h, rfl⟩
  clear hP
  obtain ⟨hbn, k1, k2⟩ := sl_len hb
  by_cases h0 : n = 0
  · subst h0
    have HF2 := tHid (HF.out none 0 0 (by rw [List.length_eq_zero_iff.1 hbn]; exact .inl ⟨none, rfl, rfl⟩))
    clear HF hb
    go_enter Tryd.func69, Tryd.ntmps69
    go_wp2_with fail
    first | exact HF2.out | (go_ret; exact HF2.out)
  · have z1 : ((n : Int) == 0) = false := by rw [beq_eq_false_iff_ne]; omega
    have z2 : ¬ (n : Int) = 0 := by omega
    have HT := tHid (trimlb_any w a n c b hb)
    obtain ⟨cs, hcs⟩ : ∃ cs : ByteArray, cs = ⟨#[32]⟩ := ⟨_, rfl⟩
    rw [← hcs]
    have hsz : cs.size = 1 := by rw [hcs]; rfl
    have hem : cs.toList.isEmpty = false := by rw [hcs, ByteArray.toList_eq]; rfl
    have e0 : ∀ h, (cs[0]'h).toNat = 32 := by subst hcs; intro h; rfl
    clear hcs hb h0 hbn
    go_enter Tryd.func69, Tryd.ntmps69
    go_wp2_with (first
      | (go_at_call 81; with_reducible refine HT.out.mono ?_; rintro e w2 ⟨a', n', c', rfl, HM2, rfl⟩))
    have HF2 := tHid (HF.out _ _ _ HM2.out)
    first | exact HF2.out | (go_ret; exact HF2.out)
set_option maxHeartbeats 1000000 in
set_option maxRecDepth 100000 in
theorem noDigit_any (x : By) (w : World) : Calls Tryd.prog 71 #[.int .u8 x.toNat] w fun e w' => e = .returned (.bool (!isD x)) ∧ w = w' := by
  obtain ⟨P, hP⟩ : ∃ P : Ending → World → Prop, P = fun e w' => e = .returned (.bool (!isD x)) ∧ w = w' := ⟨_, rfl⟩
  rw [← hP]
  have HF : Hid (P (.returned (.bool (!isD x))) w) := by rw [hP]; exact ⟨rfl, rfl⟩
  clear hP
  have hd : isD x = decide (48 ≤ x.toNat ∧ x.toNat ≤ 55) := rfl
  rw [hd] at HF
  clear hd
  generalize x.toNat = y at *
  by_cases h1 : (y : Int) < 48
  · rw [decide_eq_false (by omega)] at HF
    have d1 : decide ((y : Int) < 48) = true := decide_eq_true h1
    go_enter Tryd.func71, Tryd.ntmps71
    go_wp2
    exact HF.out
  · have d1 : decide ((y : Int) < 48) = false := decide_eq_false h1
    by_cases h2 : (55 : Int) < (y : Int)
    · rw [decide_eq_false (by omega)] at HF
      have d2 : decide ((55 : Int) < (y : Int)) = true := decide_eq_true h2
      go_enter Tryd.func71, Tryd.ntmps71
      go_wp2
      exact HF.out
    · rw [decide_eq_true (by omega)] at HF
      have d2 : decide ((55 : Int) < (y : Int)) = false := decide_eq_false h2
      go_enter Tryd.func71, Tryd.ntmps71
      go_wp2
      exact HF.out
set_option maxHeartbeats 8000000 in
set_option maxRecDepth 100000 in
theorem indexFB_any {X : Nat → Prop} (w : World) (a : Option Addr) (n c : Nat) (b : List By) (hb : Sl X (.slice a n c) b w) :
    Calls Tryd.prog 84 #[.slice a n c, .func (.func 71) #[] #[]] w fun e w' => ∃ z : Int, e = .returned (.int .i64 z) ∧ decide (0 ≤ z) = !(b.all isD) ∧ w = w' := by
  obtain ⟨P, hP⟩ : ∃ P : Ending → World → Prop, P = fun e w' => ∃ z : Int, e = .returned (.int .i64 z) ∧ decide (0 ≤ z) = !(b.all isD) ∧ w = w' := ⟨_, rfl⟩
  rw [← hP]
  have HF : Hid (∀ z, decide (0 ≤ z) = !(b.all isD) → P (.returned (.int .i64 z)) w) := fun z hz => by rw [hP]; exact ⟨z, rfl, hz, rfl⟩
  clear hP
  obtain ⟨hbn, k1, k2⟩ := sl_len hb
  have HR : Hid (∀ I, (hI : I < b.length) → ∃ g o, a = some ⟨g, o, none⟩ ∧ w.cell? ⟨g, o + I, none⟩ = some (.int .u8 b[I].toNat)) := fun I hI => by
    rcases hb with ⟨a', e, e2⟩ | ⟨g, _, o, c', e, e1, e2, hr⟩
    · subst e2; simp at hI
    · injection e with e _ ec
      exact ⟨g, o, e, hr I hI⟩
  have HC := tHid (fun x : By => noDigit_any x w)
  have HBN := tHid hbn
  clear hb hbn
  have eg := enters_of Tryd.func71 (by kernel_rfl) rfl
  go_enter Tryd.func84, Tryd.ntmps84
  go_wp2
  go_loopg [8] n (fun kx i wr => ∃ (I : Nat), I ≤ n ∧ n - I ≤ kx ∧ i = .int .i64 I ∧ wr = w ∧ Hid ((b.take I).all isD = true))
  case atStart => exact ⟨0, by omega, by omega, rfl, rfl, rfl⟩
  case round =>
    obtain ⟨I, hI, hkx, rfl, rfl, HI⟩ := hrel
    by_cases hlt : I < n
    · have hlt' : I < b.length := by have := HBN.out; omega
      obtain ⟨g1, o1, rfl, hcell1⟩ := HR.out I hlt'
      have HCx := tHid (HC.out b[I])
      cases hd : isD b[I] with
      | true =>
        have HN : Hid ((b.take (I + 1)).all isD = true) := by
          show _ = _
          rw [take_snoc b I hlt', List.all_append, HI.out, List.all_cons, hd]; rfl
        rw [hd] at HCx
        clear HI HF HR HC HBN hd
        generalize b[I].toNat = x at *
        go_wp2_with (first | (go_at_fn 71; with_reducible refine HCx.out.mono ?_; rintro e w1 ⟨rfl, rfl⟩) | (go_at_call 71; with_reducible refine HCx.out.mono ?_; rintro e w1 ⟨rfl, rfl⟩))
        go_roundg (n - (I + 1))
        case measure => omega
        case rel => exact ⟨I + 1, by omega, by omega, by first | rfl | (congr 1), rfl, HN⟩
      | false =>
        have HF2 := tHid (HF.out I (by
          rw [decide_eq_true (by omega)]
          have : b.all isD = false := by
            rw [List.all_eq_false]
            exact ⟨b[I], List.getElem_mem hlt', by rw [hd]; decide⟩
          rw [this]; rfl))
        rw [hd] at HCx
        clear HI HF HR HC HBN hd
        generalize b[I].toNat = x at *
        go_wp2_with (first | (go_at_fn 71; with_reducible refine HCx.out.mono ?_; rintro e w1 ⟨rfl, rfl⟩) | (go_at_call 71; with_reducible refine HCx.out.mono ?_; rintro e w1 ⟨rfl, rfl⟩))
        exact HF2.out
    · have HF2 := tHid (HF.out (-1) (by
        have := HI.out
        rw [List.take_of_length_le (by have := HBN.out; omega)] at this
        rw [this]; decide))
      clear HI HF HR HC HBN
      go_wp2_with fail
      exact HF2.out
set_option maxHeartbeats 4000000 in
set_option maxRecDepth 100000 in
theorem containsFB_any {X : Nat → Prop} (w : World) (a : Option Addr) (n c : Nat) (b : List By) (hb : Sl X (.slice a n c) b w) :
    Calls Tryd.prog 70 #[.slice a n c, .func (.func 71) #[] #[]] w fun e w' => e = .returned (.bool (!(b.all isD))) ∧ w = w' := by
  obtain ⟨P, hP⟩ : ∃ P : Ending → World → Prop, P = fun e w' => e = .returned (.bool (!(b.all isD))) ∧ w = w' := ⟨_, rfl⟩
  rw [← hP]
  have HC := tHid (indexFB_any w a n c b hb)
  have HF : Hid (P (.returned (.bool (!(b.all isD)))) w) := by rw [hP]; exact ⟨rfl, rfl⟩
  clear hP hb
  generalize (!(b.all isD)) = B at *
  go_enter Tryd.func70, Tryd.ntmps70
  go_wp2_with (first | (go_at_call 84; with_reducible refine HC.out.mono ?_; rintro e w1 ⟨z, rfl, hz, rfl⟩))
  exact HF.out
theorem sl_take {X : Nat → Prop} {a : Option Addr} {n c : Nat} {l : List By} {w : World} (h : Sl X (.slice a n c) l w) (M : Nat) (hM : M ≤ n) : Sl X (.slice a M c) (l.take M) w := by
  rcases h with ⟨a', e, rfl⟩ | ⟨g, hg, o, c', e, e1, e2, e3⟩
  · cases e
    obtain rfl : M = 0 := by omega
    exact .inl ⟨a, rfl, rfl⟩
  · injection e with ea en ec
    subst ec
    refine .inr ⟨g, hg, o, c, ?_, ?_, e2, e3.take M⟩
    · rw [List.length_take, ea, Nat.min_eq_left (by omega)]
    · rw [List.length_take]; omega
end Go.Proofs.YtffhpoilifgcdaaDoor

namespace Go.Proofs.YtffhpoilifgcdaaDoor
open Go.RowKit
set_option linter.unusedVariables false
theorem mx_eq : mx = 9223372036854775807 := by unfold mx; rfl
/-- n * 2^k or d, d below 2^k. -/
theorem i64_or (k : Nat) (n d : Int) (hk : k ≤ 8) (hd : 0 ≤ d) (hd2 : d < 2 ^ k) (h1 : -9223372036854775808 ≤ n * 2 ^ k + d) (h2 : n * 2 ^ k + d ≤ 9223372036854775807) : bits .or .i64 (n * 2 ^ k) d = n * 2 ^ k + d := by
  obtain ⟨D, rfl⟩ := Int.eq_ofNat_of_zero_le hd
  have hp : (2 : Int) ^ k = ((2 ^ k : Nat) : Int) := by norm_cast
  have hp2 : 2 ^ k ≤ 2 ^ 8 := Nat.pow_le_pow_right (by decide) hk
  have hpos : 0 < 2 ^ k := Nat.pow_pos (by decide)
  have hdiv : 2 ^ 64 = 2 ^ k * 2 ^ (64 - k) := by rw [← Nat.pow_add]; congr 1; omega
  show IntKind.i64.wrap ((BitVec.ofInt 64 (n * 2 ^ k) ||| BitVec.ofInt 64 (D : Int)).toNat : Nat) = _
  rw [BitVec.toNat_or, BitVec.toNat_ofInt, BitVec.toNat_ofInt]
  have eD : ((D : Int) % ((2 ^ 64 : Nat) : Int)).toNat = D := by
    rw [hp] at hd2
    omega
  rw [eD]
  have eN : ((n * 2 ^ k) % ((2 ^ 64 : Nat) : Int)).toNat = 2 ^ k * ((n % ((2 ^ (64 - k) : Nat) : Int)).toNat) := by
    rw [hdiv, hp]
    push_cast
    rw [Int.mul_comm n, Int.mul_emod_mul_of_pos _ _ (by rw [hp]; omega)]
    have : 0 ≤ n % (2 : Int) ^ (64 - k) := Int.emod_nonneg _ (by have : (0 : Int) < 2 ^ (64 - k) := Int.pow_pos (by decide); omega)
    obtain ⟨z, hz⟩ := Int.eq_ofNat_of_zero_le this
    rw [hz, hp]
    norm_cast
  rw [eN, nat_join k _ _ (Nat.mul_mod_right _ _) (by rw [hp] at hd2; omega), ← eN, IntKind.wrap_i64]
  clear eN eD hdiv hd2 hp2 hpos hp hd
  generalize n * 2 ^ k = m at *
  have e : (((m % ((2 ^ 64 : Nat) : Int)).toNat + D : Nat) : Int) = m % 18446744073709551616 + (D : Int) := by omega
  rw [e]
  omega
theorem oct_or (N d : Nat) (hN : N ≤ 1152921504606846975) (hd : d < 8) : bits .or .i64 ((N : Int) * 8) (d : Int) = ((8 * N + d : Nat) : Int) := by
  have := i64_or 3 (N : Int) (d : Int) (by omega) (by omega) (by omega) (by omega) (by omega)
  rw [show (2 : Int) ^ 3 = 8 from rfl] at this
  rw [this]; omega
/-- What Octal answers. -/
def octV (b : List By) : Value := .tuple #[.int .i64 (octN b : Nat), .int .i64 (octE b : Nat)]
theorem octV_of (b : List By) (n e : Nat) (h1 : octN b = n) (h2 : octE b = e) : octV b = .tuple #[.int .i64 (n : Nat), .int .i64 (e : Nat)] := by unfold octV; rw [h1, h2]
set_option maxHeartbeats 8000000 in
set_option maxRecDepth 100000 in
theorem octal_any {X : Nat → Prop} (w : World) (a : Option Addr) (n c : Nat) (b : List By) (hb : Sl X (.slice a n c) b w) :
    Calls Tryd.prog 58 #[.slice a n c] w fun e w' => e = .returned (octV b) ∧ Nw w w' := by
  obtain ⟨P, hP⟩ : ∃ P : Ending → World → Prop, P = fun e w' => e = .returned (octV b) ∧ Nw w w' := ⟨_, rfl⟩
  rw [← hP]
  have HF : Hid (∀ W, Nw w W → P (.returned (octV b)) W) := fun W hW => by rw [hP]; exact ⟨rfl, hW⟩
  clear hP
  have HL := tHid (triml_any w a n c b hb)
  have HR : Hid (∀ a' n' c', Sl X (.slice a' n' c') (b.dropWhile isBl) w → Calls Tryd.prog 68 #[.slice a' n' c', .string ⟨#[32, 0]⟩] w fun e w' => ∃ M : Nat, e = .returned (.slice a' M c') ∧ Hid (Nw w w' ∧ Sl X (.slice a' M c') (trR (b.dropWhile isBl)) w' ∧ M ≤ c' ∧ c' < 9223372036854775808)) := fun a' n' c' h => by
    refine (trimr2_any w a' n' c' _ h).mono ?_
    rintro e w' ⟨M, rfl, H1, H2⟩
    have q := sl_take (h.nw H2.out) M H1.out.1
    rw [H1.out.2] at q
    exact ⟨M, rfl, H2.out, q, (sl_len q).2⟩
  obtain ⟨_, k1, k2⟩ := sl_len hb
  clear hb
  go_enter Tryd.func58, Tryd.ntmps58
  go_upto_region 2 with (first
    | (go_at_call 69; with_reducible refine HL.out.mono ?_; rintro e w1 ⟨a', n', c', rfl, H1, rfl⟩)
    | (go_at_call 68; with_reducible refine (HR.out _ _ _ H1.out).mono ?_; rintro e w2 ⟨M, rfl, H2⟩))
  obtain ⟨hN, hS, hc1, hc2⟩ := H2.out
  have HC := tHid (containsFB_any w2 a' M c' _ hS)
  clear HL HR H1
  cases hr : (rst b).all isBz with
  | false =>
    have hn := trR_not b hr
    rw [hn] at HC
    have hv := octV_of b 0 120 (by unfold octN; rw [hr]; rfl) (by unfold octE; rw [hr]; rfl)
    have HF2 := tHid (HF.out w2 hN)
    rw [hv] at HF2
    clear HF hN hS hr hn hv H2
    go_wp2_with (first | (go_at_call 70; with_reducible refine HC.out.mono ?_; rintro e w3 ⟨rfl, rfl⟩))
    exact HF2.out
  | true =>
    have hn := trR_is b hr
    rw [hn] at HC hS
    rw [dgs_all b] at HC
    have hbn := (sl_len hS).1
    have HR : Hid (∀ I, (hI : I < (dgs b).length) → ∃ g o, a' = some ⟨g, o, none⟩ ∧ w2.cell? ⟨g, o + I, none⟩ = some (.int .u8 (dgs b)[I].toNat)) := fun I hI => by
      rcases hS with ⟨_, e, e2⟩ | ⟨g, _, o, _, e, e1, e2, hr⟩
      · rw [e2] at hI; simp at hI
      · injection e with e _ ec
        exact ⟨g, o, e, hr I hI⟩
    have HD := tHid (And.intro (dgs_all b) (And.intro hbn (And.intro hr hN)))
    clear hS hr hn H2 hbn hN
    go_wp2_with (first | (go_at_call 70; with_reducible refine HC.out.mono ?_; rintro e w3 ⟨rfl, rfl⟩))
    go_loopg [5, 15] M (fun kx v i wr => ∃ (I N : Nat), I ≤ M ∧ M - I ≤ kx ∧ i = .int .i64 I ∧ v = .int .i64 N ∧ N ≤ 9223372036854775807 ∧ wr = w2 ∧ Hid (N = v8 0 ((dgs b).take I)))
    case atStart => exact ⟨0, 0, by omega, by omega, rfl, rfl, by omega, rfl, rfl⟩
    case round =>
      obtain ⟨I, N, hI, hkx, rfl, rfl, hN9, rfl, HV⟩ := hrel
      obtain ⟨hall, hbn, hr, hN⟩ := HD.out
      by_cases hlt : I < M
      · have hlt' : I < (dgs b).length := by omega
        obtain ⟨g, o, rfl, hcell⟩ := HR.out I hlt'
        have hdig := List.all_eq_true.1 hall _ (List.getElem_mem hlt')
        have hd2 := of_decide_eq_true hdig
        have hsn : v8 0 ((dgs b).take (I + 1)) = 8 * N + ((dgs b)[I].toNat - 48) := by
          rw [take_snoc _ _ hlt', v8_app, ← HV.out, v8_cons, v8_nil]
        by_cases hbig : (1152921504606846975 : Int) < (N : Int)
        · have hno : ¬ v8 0 (dgs b) ≤ mx := by
            have h9 := v8_ge (v8 0 ((dgs b).take (I + 1))) ((dgs b).drop (I + 1))
            rw [← v8_app, List.take_append_drop, hsn] at h9
            rw [mx_eq]; omega
          have hv := octV_of b 0 121 (by unfold octN; rw [hr, if_pos rfl, if_neg hno]) (by unfold octE; rw [hr, if_pos rfl, if_neg hno])
          have HF2 := tHid (HF.out wr hN)
          rw [hv] at HF2
          clear HF HR HD HV hall hbn hr hN hdig hd2 hsn hno hv HC
          generalize (dgs b)[I].toNat = x at *
          go_wp2_with fail
          exact HF2.out
        · obtain ⟨d, hd⟩ : ∃ d, (dgs b)[I].toNat = 48 + d := ⟨(dgs b)[I].toNat - 48, by omega⟩
          rw [hd] at hcell hsn hd2
          have hor := oct_or N d (by omega) (by omega)
          have HV2 : Hid (8 * N + d = v8 0 ((dgs b).take (I + 1))) := by show _ = _; rw [hsn]; omega
          obtain ⟨N2, hN2⟩ : ∃ N2, 8 * N + d = N2 := ⟨_, rfl⟩
          rw [hN2] at hor HV2
          have hN29 : N2 ≤ 9223372036854775807 := by omega
          have hd8 : (d : Int) < 8 := by omega
          obtain ⟨y, hy⟩ : ∃ y, y = 48 + d := ⟨_, rfl⟩
          rw [← hy] at hcell
          have hyd : (y : Int) - 48 = (d : Int) := by omega
          have hy1 : (48 : Int) ≤ (y : Int) := by omega
          have hy2 : (y : Int) ≤ 55 := by omega
          clear HF HR HD HV hall hbn hr hN hdig hsn HC hd hd2 hN2 hy
          go_wp2_with fail
          go_roundg (M - (I + 1))
          case measure => omega
          case rel => exact ⟨I + 1, N2, by omega, by omega, by first | rfl | (congr 1), by first | rfl | (rw [hor]), hN29, rfl, HV2⟩
      · have hN0 : N = v8 0 (dgs b) := by
          have := HV.out
          rw [List.take_of_length_le (by omega)] at this
          exact this
        have hyes : v8 0 (dgs b) ≤ mx := by rw [mx_eq, ← hN0]; exact hN9
        have hv := octV_of b N 0 (by unfold octN; rw [hr, if_pos rfl, if_pos hyes, hN0]) (by unfold octE; rw [hr, if_pos rfl, if_pos hyes])
        have HF2 := tHid (HF.out wr hN)
        rw [hv] at HF2
        clear HF HR HD HV hall hbn hr hN HC hv hN0 hyes
        go_wp2_with fail
        exact HF2.out
end Go.Proofs.YtffhpoilifgcdaaDoor

namespace Go.Proofs.YtffhpoilifgcdaaDoor
open Go.RowKit
set_option linter.unusedVariables false
theorem and128 : ∀ x : By, bits .and .u8 (x.toNat : Int) 128 = if 128 ≤ x.toNat then 128 else 0 := by decide +kernel
theorem anot128 : ∀ x : By, 128 ≤ x.toNat → bits .andNot .u8 (x.toNat : Int) 128 = (x.toNat : Int) - 128 := by decide +kernel
def binA (b : List By) : Value := .tuple #[.int .i64 (binN b), .int .i64 (binE b : Nat)]
theorem binA_of (b : List By) (n : Int) (e : Nat) (h1 : binN b = n) (h2 : binE b = e) : binA b = .tuple #[.int .i64 n, .int .i64 (e : Nat)] := by unfold binA; rw [h1, h2]
theorem binA_no (b : List By) (h : isB b = false) : binA b = .tuple #[.int .i64 0, .int .i64 120] := binA_of b 0 120 (by unfold binN; rw [h]; rfl) (by unfold binE; rw [h]; rfl)
theorem binA_big (b : List By) (h : isB b = true) (h2 : inI (binV b) = false) : binA b = .tuple #[.int .i64 0, .int .i64 121] := binA_of b 0 121 (by unfold binN; rw [h, h2]; rfl) (by unfold binE; rw [h, h2]; rfl)
theorem binA_ok (b : List By) (h : isB b = true) (h2 : inI (binV b) = true) : binA b = .tuple #[.int .i64 (binV b), .int .i64 0] := binA_of b (binV b) 0 (by unfold binN; rw [h, h2]; rfl) (by unfold binE; rw [h, h2]; rfl)
theorem inI_iff (n : Int) : inI n = true ↔ (-9223372036854775808 ≤ n ∧ n ≤ 9223372036854775807) := by unfold inI; simp
theorem vb_take (n : Int) (l : List By) (I : Nat) (h : I < l.length) : vb n (l.take (I + 1)) = vb n (l.take I) * 256 + (l[I].toNat : Int) := by
  rw [take_snoc l I h, vb_app, vb_cons]; rfl
set_option maxHeartbeats 8000000 in
set_option maxRecDepth 100000 in
theorem binary_any {X : Nat → Prop} (w : World) (a : Option Addr) (n c : Nat) (b : List By) (hb : Sl X (.slice a n c) b w) :
    Calls Tryd.prog 57 #[.slice a n c] w fun e w' => e = .returned (binA b) ∧ w = w' := by
  obtain ⟨P, hP⟩ : ∃ P : Ending → World → Prop, P = fun e w' => e = .returned (binA b) ∧ w = w' := ⟨_, rfl⟩
  rw [← hP]
  have HF : Hid (P (.returned (binA b)) w) := by rw [hP]; exact ⟨rfl, rfl⟩
  clear hP
  obtain ⟨hbn, k1, k2⟩ := sl_len hb
  by_cases h2 : (n : Int) < 2
  · rw [binA_no b (decide_eq_false (by rw [hbn]; omega))] at HF
    have d2 : decide ((n : Int) < 2) = true := decide_eq_true h2
    clear hb hbn
    go_enter Tryd.func57, Tryd.ntmps57
    go_wp2_with fail
    exact HF.out
  · have d2 : decide ((n : Int) < 2) = false := decide_eq_false h2
    cases b with
    | nil => simp at hbn; omega
    | cons x l =>
      obtain ⟨g, o, rfl, hn, hc, _, x0, _, hs2⟩ := sl_cons hb
      have hS := hs2 (by omega)
      by_cases hx : 128 ≤ x.toNat
      · have e1 := and128 x
        rw [if_pos hx] at e1
        have e2 := anot128 x hx
        have hB : isB (x :: l) = true := decide_eq_true ⟨by rw [hbn]; omega, hx⟩
        obtain ⟨m, rfl⟩ : ∃ m, n = m + 1 := ⟨n - 1, by omega⟩
        rw [Nat.add_sub_cancel] at hS
        have HR : Hid (∀ I, (hI : I < l.length) → w.cell? ⟨g, o + 1 + I, none⟩ = some (.int .u8 l[I].toNat)) := fun I hI => by
          rcases hS with ⟨_, e, e2⟩ | ⟨g, _, o, _, e, e1, e2, hr⟩
          · rw [e2] at hI; simp at hI
          · injection e with e _ ec
            injection e with e
            injection e with ea eo
            rw [ea, eo]
            exact hr I hI
        obtain ⟨f, hf⟩ : ∃ f, fb x = f := ⟨_, rfl⟩
        obtain ⟨hf1, hf2⟩ := fb_range x hx
        rw [hf] at hf1 hf2
        have hfe : f = if (x.toNat : Int) - 128 > 63 then (x.toNat : Int) - 256 else (x.toNat : Int) - 128 := hf.symm
        have HD : Hid (isB (x :: l) = true ∧ l.length = m ∧ binV (x :: l) = vb f l) := ⟨hB, by omega, by rw [← hf]; rfl⟩
        have hx255 := x.isLt
        have hc1 : 1 < c := by omega
        have hc1' : ¬ c = 1 := by omega
        clear hb hn hs2 hS hB hbn hf
        generalize x.toNat = xx at *
        go_enter Tryd.func57, Tryd.ntmps57
        go_upto_if 23 with fail
        go_cut [4] from 23 to 25 (fun v wx => v = .int .i64 f ∧ wx = w)
        case first =>
          by_cases h63 : (63 : Int) < (xx : Int) - 128
          · have hfx : f = (xx : Int) - 128 + -128 := by rw [hfe, if_pos (by omega)]; omega
            clear HF HR HD hfe
            subst hfx
            go_wp2_with fail
            go_meet
            refine ⟨?_, ?_⟩ <;> first | rfl | (congr 1; omega) | trace_state
          · have hfx : f = (xx : Int) - 128 := by rw [hfe, if_neg (by omega)]
            clear HF HR HD hfe
            subst hfx
            go_wp2_with fail
            go_meet
            exact ⟨rfl, rfl⟩
        case rest =>
        obtain ⟨rfl, hw⟩ := hcut
        have hw' := hw.symm
        subst hw'
        clear hw hfe e1 e2 x0 d2 h2 hx hx255
        go_wp2_with fail
        go_loopg [4, 29] m (fun kx v i wr => ∃ (I : Nat) (N : Int), I ≤ m ∧ m - I ≤ kx ∧ i = .int .i64 I ∧ v = .int .i64 N ∧ -9223372036854775808 ≤ N ∧ N ≤ 9223372036854775807 ∧ wr = w ∧ Hid (N = vb f (l.take I)))
        case atStart => exact ⟨0, f, by omega, by omega, rfl, rfl, by omega, by omega, rfl, rfl⟩
        case round =>
          obtain ⟨I, N, hI, hkx, rfl, rfl, hN1, hN2, rfl, HV⟩ := hrel
          obtain ⟨hB, hlm, hbv⟩ := HD.out
          by_cases hlt : I < m
          · have hlt' : I < l.length := by omega
            have hcell := HR.out I hlt'
            have hsn := vb_take f l I hlt'
            rw [← HV.out] at hsn
            have hy := l[I].isLt
            by_cases hfit : -36028797018963968 ≤ N ∧ N ≤ 36028797018963967
            · have hor := i64_or 8 N (l[I].toNat : Int) (by omega) (by omega) (by omega) (by omega) (by omega)
              rw [show (2 : Int) ^ 8 = 256 from rfl] at hor
              have hdiv : N * 256 / 256 = N := by omega
              obtain ⟨N2, hN2'⟩ : ∃ N2, N * 256 + (l[I].toNat : Int) = N2 := ⟨_, rfl⟩
              rw [hN2'] at hor hsn
              have HV2 : Hid (N2 = vb f (l.take (I + 1))) := hsn.symm
              have b1 : -9223372036854775808 ≤ N2 := by omega
              have b2 : N2 ≤ 9223372036854775807 := by omega
              obtain ⟨hf3, hf4⟩ := hfit
              have hself : (N == N) = true := by simp
              clear HF HR HD HV hsn hB hlm hbv hN2'
              generalize l[I].toNat = y at *
              go_wp2_with fail
              go_roundg (m - (I + 1))
              case measure => omega
              case rel => exact ⟨I + 1, N2, by omega, by omega, by first | rfl | (congr 1), rfl, b1, b2, rfl, HV2⟩
            · have hout : inI (N * 256 + (l[I].toNat : Int)) = false := by
                unfold inI; exact decide_eq_false (by omega)
              have hbad : inI (binV (x :: l)) = false := by
                rw [hbv, ← List.take_append_drop (I + 1) l, vb_app, hsn]
                exact vb_out _ _ hout
              rw [binA_big _ hB hbad] at HF
              have hq2 : (wrap64 (N * 256) / 256 != N) = true := by rw [bne_iff_ne]; unfold wrap64; omega
              clear HR HD HV hsn hB hlm hbv hbad hout
              generalize l[I].toNat = y at *
              go_wp2_with fail
              exact HF.out
          · have hNv : N = binV (x :: l) := by
              rw [hbv, HV.out, List.take_of_length_le (by omega)]
            rw [binA_ok _ hB (by rw [inI_iff, ← hNv]; exact ⟨hN1, hN2⟩), ← hNv] at HF
            clear HR HD HV hB hlm hbv hNv
            go_wp2_with fail
            exact HF.out
      · have e1 := and128 x
        rw [if_neg hx] at e1
        rw [binA_no _ (decide_eq_false (fun h => hx (h : _ ∧ 128 ≤ x.toNat).2))] at HF
        clear hb hn hs2 hS hbn
        generalize x.toNat = xx at *
        go_enter Tryd.func57, Tryd.ntmps57
        go_wp2_with fail
        exact HF.out
end Go.Proofs.YtffhpoilifgcdaaDoor
