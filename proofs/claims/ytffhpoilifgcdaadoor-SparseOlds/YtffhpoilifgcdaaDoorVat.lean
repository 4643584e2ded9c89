import Derived.Test.YtffhpoilifgcdaaDoorVaj
import Derived.Test.YtffhpoilifgcdaaDoorVas
import Derived.Test.YtffhpoilifgcdaaDoorNjS
import Derived.Lib.AppendIntMem
namespace Go.Proofs.YtffhpoilifgcdaaDoor
open Go.RowKit Go.Sort
set_option linter.unusedVariables false
/-! ### strconv.AppendInt behind bytes of one's own -/
theorem nwBelow {w w' : World} (h : Nw w w') : Below w.heap.size w w' := Fr.below (Below.refl _ _) h (Nat.le_refl _) (fun i h => h.elim)
structure Ev15 (w : World) : Prop where
  tab : Lib.TabIs Tryd.prog w "internal/strconv.uint64pow10" .u64 Lib.pow10Tab
theorem Ev15.nw {w w' : World} (h : Ev15 w) (f : Nw w w') : Ev15 w' := ⟨Lib.tabBelow_of_tabIs h.tab w' (nwBelow f)⟩
theorem nwPutRow (w : World) (o : Obj) (dk : Array UInt8) (k : Nat) : Nw w ((putRow (fun (b : UInt8) => Value.int .u8 (b.toNat : Int)) (w.alloc o) w.heap.size 0 dk).drewN k) := by
  refine ⟨rfl, rfl, rfl, ?_, fun i hi _ => ?_⟩
  · simp [putRow, mapBlock, World.drewN]
  · show (putRow (fun (b : UInt8) => Value.int .u8 (b.toNat : Int)) (w.alloc o) w.heap.size 0 dk).heap[i]? = _
    simp only [putRow, mapBlock, Array.getElem?_modify]
    rw [if_neg (by omega)]
    exact Below.heap_alloc _ _ _ hi
theorem bcells (m : List By) (s : ByteArray) (hs : s.data.toList = m.map u8) : Go.byteCells s = m.map bv := by
  unfold Go.byteCells
  rw [hs, List.map_map]
  apply List.map_congr_left
  intro x _
  simp only [Function.comp, u8_nat]
theorem ssize (m : List By) (s : ByteArray) (hs : s.data.toList = m.map u8) : s.size = m.length := by
  have : s.data.toList.length = m.length := by rw [hs, List.length_map]
  rw [← this]; rfl
theorem strC (s : ByteArray) : Lib.strCells s = Go.byteCells s := rfl
set_option maxRecDepth 100000 in
theorem mine_str (K : Nat → Prop) (w : World) (hK : ∀ k, K k → k < w.heap.size) (v : Value) (l : List By) (h : Mine K v l w) (s : ByteArray) (m : List By) (hs : s.data.toList = m.map u8) (hm : m ≠ []) (hb : l.length + m.length ≤ 200000000000000) :
    ∃ a k c W, (∀ ty, (Builtin.append_ #[23, 9] ty #[v, .string s]).run Tryd.prog w = .ok (.slice a k c) W) ∧ Mine K (.slice a k c) (l ++ m) W ∧ Fr (fun k => ¬ K k) w W := by
  obtain ⟨i, hi, hz, hsz, hby⟩ := infoB
  have hbc := bcells m s hs
  have hsl := ssize m s hs
  have hm0 : 0 < m.length := List.length_pos_iff.2 hm
  rcases h with ⟨rfl, rfl⟩ | ⟨g, h1, hO⟩
  · have hsrc : Src Tryd.prog 1 9 (.string s) m.length (m.map bv) w := by rw [← hbc, ← hsl]; exact Src.ofString w Tryd.underlying9 s
    have hrun := fun ty => run_append_grow_src w 23 9 ty 5 i _ Tryd.underlying23 hi hz none 0 0 [] (by simp [Builtin.firstCells]) (.string s) m.length _ (by rw [hsz]; exact hsrc) (by omega) (by omega) (by rw [hby]; exact growslice_fits_wide (by omega) (by simp at hb; omega))
    have hge := grownCap_ge w (0 + m.length) 0 5
    have hle := grownCap_le_maxLen w (0 + m.length) 0 5 (by unfold maxLen; simp at hb; omega)
    unfold maxLen at hle
    generalize grownCap w (0 + m.length) 0 5 = G at *
    refine ⟨_, _, _, _, hrun, .inr ⟨w.heap.size, fun hk => by have := hK _ hk; omega, ?_⟩, Nw.any ((Fr.refl _ _).drew.alloc _)⟩
    have e : (([] ++ m.map bv).toArray ++ Builtin.zeroCells (Value.int .u8 0).cells (G - (0 + m.length))) = ((m ++ List.replicate (G - (0 + m.length)) 0#8).map bv).toArray := by
      rw [zeroB]; simp
    rw [e, List.nil_append]
    refine ⟨m ++ List.replicate (G - (0 + m.length)) 0#8, ?_, ?_, ?_, ?_, ?_⟩
    · simp; omega
    · rw [List.take_append_of_le_length (by simp), List.take_of_length_le (by simp)]
    · simp
    · simp; omega
    · show (w.heap.push _)[w.heap.size]? = _
      simp
  · obtain ⟨xs, rfl, h2, h3, h4, h5⟩ := hO
    by_cases hroom : l.length + s.size ≤ xs.length
    · have hrun := fun ty => Lib.run_append_room_string (P := Tryd.prog) w 23 9 ty 5 i Tryd.underlying23 Tryd.underlying9 hi hsz g l.length xs.length (xs.map bv).toArray h5 s hroom (by simpa using hroom)
      refine ⟨_, _, _, _, hrun, .inr ⟨g, h1, ?_⟩, (Fr.refl _ _).setRow _ _ (.inl h1)⟩
      have e : ((xs.map bv).toArray.toList.take l.length ++ Lib.strCells s ++ (xs.map bv).toArray.toList.drop (l.length + s.size)).toArray = ((l ++ m ++ xs.drop (l.length + s.size)).map bv).toArray := by
        rw [strC, hbc]
        simp only [List.map_append]
        rw [← List.map_take, ← List.map_drop, h2]
      rw [e]
      refine ⟨l ++ m ++ xs.drop (l.length + s.size), ?_, ?_, ?_, ?_, ?_⟩
      · simp [hsl]; omega
      · rw [List.take_append_of_le_length (by simp), List.take_of_length_le (by simp)]
      · simp
      · simp [hsl]; omega
      · exact setRow_heap w g _ _ 5 _ h5
    · have hrun := fun ty => Lib.run_append_grow_string (P := Tryd.prog) w 23 9 ty 5 i _ Tryd.underlying23 Tryd.underlying9 hi hz ⟨g, 0, none⟩ l.length xs.length (l.map bv) (by rw [hsz]; simp) (fun j u hj => by
        rw [add_addr]
        simp only [List.getElem?_map, Option.map_eq_some_iff] at hj
        obtain ⟨b, hb, rfl⟩ := hj
        have hr := h5.rd.take l.length
        rw [h2] at hr
        exact hr.at j b hb) s (by omega) (by omega) (by rw [hby]; exact growslice_fits_wide (by omega) (by omega))
      have hge := grownCap_ge w (l.length + s.size) xs.length 5
      have hle := grownCap_le_maxLen w (l.length + s.size) xs.length 5 (by unfold maxLen; omega)
      unfold maxLen at hle
      generalize grownCap w (l.length + s.size) xs.length 5 = G at *
      refine ⟨_, _, _, _, hrun, .inr ⟨w.heap.size, fun hk => by have := hK _ hk; omega, ?_⟩, Nw.any ((Fr.refl _ _).drew.alloc _)⟩
      have e : ((l.map bv).toArray ++ (Lib.strCells s).toArray ++ Builtin.zeroCells (Value.int .u8 0).cells (G - (l.length + s.size))) = ((l ++ m ++ List.replicate (G - (l.length + s.size)) 0#8).map bv).toArray := by
        rw [zeroB, strC, hbc]; simp
      rw [e]
      refine ⟨l ++ m ++ List.replicate (G - (l.length + s.size)) 0#8, ?_, ?_, ?_, ?_, ?_⟩
      · simp [hsl]; omega
      · rw [List.take_append_of_le_length (by simp), List.take_of_length_le (by simp)]
      · simp
      · simp [hsl]; omega
      · show (w.heap.push _)[w.heap.size]? = _
        simp
/-- One byte behind bytes of one's own, or nil. -/
theorem mine_one (K : Nat → Prop) (w : World) (hK : ∀ k, K k → k < w.heap.size) (a : Option Addr) (k c : Nat) (l : List By) (h : Mine K (.slice a k c) l w) (hs : l.length ≤ 150000000000000) (x : By) (z : Int) (hz : z = x.toNat) :
    ∃ a' k' c' W, Hid (∀ ty, (Builtin.append_ #[23, 23] ty #[.slice a k c, .slice (some ⟨w.heap.size, 0, none⟩) 1 1]).run Tryd.prog (w.alloc (.cells #[.int .u8 z] 5)) = .ok (.slice a' k' c') W) ∧ Hid (Mine K (.slice a' k' c') (l ++ [x]) W ∧ Fr (fun k => ¬ K k) w W) := by
  obtain ⟨a1, c1, v', W, e, h1, h2⟩ := mine_step K l w hK _ h hs x z hz
  injection e with e1 e2 e3
  subst e1 e2 e3
  obtain ⟨a', c', e, _, _⟩ := (h2.out.1.sl).form
  subst e
  exact ⟨a', _, c', W, h1, h2⟩
theorem dgt_ne (n : Nat) : dgt n ≠ [] := by
  intro e
  by_cases h0 : n < 10
  · rw [dgt_small h0] at e; cases e
  · rw [dgt_big h0] at e; exact absurd e (by simp)
theorem dgt_short (n : Nat) (h : n < 18446744073709551616) : (dgt n).length ≤ 20 := by
  rw [dgt_len]
  by_cases h1 : 1 ≤ n
  · have := Lib.numDigits_eq n h1 h; split at this <;> omega
  · obtain rfl : n = 0 := by omega
    rw [← dgt_len, dgt_small (by omega)]; simp
/-- What a call that adds bytes answers. -/
def AddA (K : Nat → Prop) (w : World) (l : List By) (e : Ending) (V : World) : Prop := ∃ a k c, e = .returned (.slice a k c) ∧ Hid (Mine K (.slice a k c) l V ∧ Fr (fun k => ¬ K k) w V)
set_option maxHeartbeats 4000000 in
set_option maxRecDepth 100000 in
theorem appU_any (K : Nat → Prop) (w : World) (hK : ∀ k, K k → k < w.heap.size) (a : Option Addr) (k c : Nat) (l : List By) (h : Mine K (.slice a k c) l w) (hl : l.length ≤ 100000000000000) (u : Nat) (hu64 : u < 18446744073709551616) (hE : Ev15 w) :
    Calls Tryd.prog 50 #[.slice a k c, .int .u64 u, .int .i64 10] w (AddA K w (l ++ dgt u)) := by
  obtain ⟨P, hP⟩ : ∃ P : Ending → World → Prop, P = AddA K w (l ++ dgt u) := ⟨_, rfl⟩
  rw [← hP]
  have HF : Hid (∀ V a k c, Mine K (.slice a k c) (l ++ dgt u) V → Fr (fun k => ¬ K k) w V → P (.returned (.slice a k c)) V) := fun V a k c h1 h2 => by rw [hP]; exact ⟨a, k, c, rfl, h1, h2⟩
  clear hP
  have hds := dgt_short u hu64
  by_cases hs : u < 100
  · have HS := tHid (sh_strconv_small u hs w)
    have hs' : (u : Int) < 100 := by omega
    obtain ⟨a', k', c', W, hap, hM, hF⟩ := mine_str K w hK _ l h ⟨(Lib.decDigits u).toArray⟩ (dgt u) (by rw [← dgt_lib]) (dgt_ne u) (by omega)
    have HA := tHid hap
    have HF2 := tHid (HF.out W a' k' c' hM hF)
    clear HF hap hM hF h
    generalize (⟨(Lib.decDigits u).toArray⟩ : ByteArray) = s at *
    go_enter Tryd.func50, Tryd.ntmps50
    go_wp2_with (first
      | (go_at_call 61; with_reducible refine HS.out.mono ?_; rintro e w' ⟨rfl, rfl⟩)
      | (at_builtin; refine Lib.wpList_append_run _ rfl _ _ 23 9 rfl (.slice a k c) (.string s) (by first | rfl | simp [Act.eval]) (by first | rfl | simp [Act.eval]) _ _ (HA.out _) ?_))
    first | exact HF2.out | (go_ret; exact HF2.out)
  · have hs' : ¬ (u : Int) < 100 := by omega
    have hu1 : 1 ≤ u := by omega
    have hnd20 : Lib.nDigits u ≤ 20 := by have := Lib.numDigits_eq u hu1 hu64; split at this <;> omega
    have hal : Tryd.prog.arrayLen 81 = 24 := by simp [Program.arrayLen, Tryd.underlying81]
    have hsl1 : ∀ W, (Instr.sliceAt 81 (.pointer (some ⟨w.heap.size, 0, none⟩)) none (some (.int .i64 (Lib.nDigits u : Int))) none).run Tryd.prog W = .ok (.slice (some ⟨w.heap.size, 0, none⟩) (Lib.nDigits u) 24) W := fun W => by
      rw [run_sliceAt_array_h W 81 ⟨w.heap.size, 0, none⟩ (by simp [Program.arrayLen, Program.elem, Tryd.underlying81]) .i64 (Lib.nDigits u : Int) (by omega) (by rw [hal]; omega)]
      go_simp
    have hH0 := Lib.holds_zero0 w 81 (Lib.nDigits u) (by omega)
    have hfmt := sh_strconv_formatBase10 w.heap.size 0 24 u (Array.replicate (Lib.nDigits u) 0) (w.alloc (.cells Lib.zeros24 81)) hH0 (by rw [Array.size_replicate]; exact Lib.lt_pow_nDigits u) hu64 (by rw [Array.size_replicate]; omega)
    rw [Array.size_replicate] at hfmt
    have HH0 := tHid hH0
    have HFM := tHid hfmt
    have HND := tHid (sh_strconv_numDigits u hu1 hu64 _ (Lib.tabIs_alloc hE.tab (.cells Lib.zeros24 81)))
    have HAP : Hid (∀ V, Nw w V → Sl (fun _ => False) (.slice (some ⟨w.heap.size, 0, none⟩) (Lib.nDigits u) 24) (dgt u) V → ∃ a' k' c' W, Hid (∀ ty, (Builtin.append_ #[23, 23] ty #[.slice a k c, .slice (some ⟨w.heap.size, 0, none⟩) (Lib.nDigits u) 24]).run Tryd.prog V = .ok (.slice a' k' c') W) ∧ Hid (P (.returned (.slice a' k' c')) W)) := fun V hV hx => by
      obtain ⟨v', W, q1, q2, q3⟩ := mine_app K V (fun k hk => Nat.lt_of_lt_of_le (hK k hk) hV.size) _ l (h.nw hV) _ (dgt u) hx (by omega)
      obtain ⟨a', c', rfl, _, _⟩ := q2.sl.form
      exact ⟨a', _, c', W, q1, HF.out W _ _ _ q2 (hV.any.trans q3)⟩
    clear hH0 hal hfmt h hE HF
    go_enter Tryd.func50, Tryd.ntmps50
    go_upto_region 6 with (first
      | (go_at_call 62; refine HND.out.mono ?_; rintro e w' ⟨rfl, rfl⟩))
    go_upto_region 7 with (first
      | (go_at_call 63; refine HFM.out.mono ?_; rintro e w' ⟨rfl, kk, v', dk, rfl, hF⟩))
    have hSl : Sl (fun _ => False) (.slice (some ⟨w.heap.size, 0, none⟩) (Lib.nDigits u) 24) (dgt u) ((putRow (fun (b : UInt8) => Value.int .u8 (b.toNat : Int)) (w.alloc (.cells Lib.zeros24 81)) w.heap.size 0 dk).drewN kk) := by
      refine .inr ⟨w.heap.size, fun h => h, 0, 24, by rw [dgt_len], by rw [dgt_len]; omega, by omega, fun j hj => ?_⟩
      have hjl : j < (Lib.decDigits u).length := by rw [dgt_lib, List.length_map]; exact hj
      have h1 := cell?_putRow (fun (b : UInt8) => Value.int .u8 (b.toNat : Int)) _ w.heap.size 0 _ dk HH0.out (by rw [hF.size, Array.size_replicate]) j (by rw [hF.size]; rw [Lib.decDigits_length] at hjl; exact hjl)
      have h2 := Lib.row_is_numeral hF j hjl
      rw [World.cell?_drewN, h1]
      have h3 : (Lib.decDigits u)[j] = u8 (dgt u)[j] := by simp only [dgt_lib, List.getElem_map]
      rw [← h2, h3, u8_nat]
    have HN : Hid (Nw w ((putRow (fun (b : UInt8) => Value.int .u8 (b.toNat : Int)) (w.alloc (.cells Lib.zeros24 81)) w.heap.size 0 dk).drewN kk)) := nwPutRow w _ dk kk
    generalize (putRow (fun (b : UInt8) => Value.int .u8 (b.toNat : Int)) (w.alloc (.cells Lib.zeros24 81)) w.heap.size 0 dk).drewN kk = V at *
    obtain ⟨a', k', c', W, HA, HF2⟩ := HAP.out V HN.out hSl
    clear HH0 HFM HND hF HAP hSl
    go_wp2_with (first
      | (at_builtin; refine Lib.wpList_append_run _ rfl _ _ 23 23 rfl (.slice a k c) (.slice (some ⟨w.heap.size, 0, none⟩) (Lib.nDigits u) 24) (by first | rfl | simp [Act.eval]) (by first | rfl | simp [Act.eval]) _ _ (HA.out _) ?_))
    first | exact HF2.out | (go_ret; exact HF2.out)
set_option maxHeartbeats 4000000 in
set_option maxRecDepth 100000 in
theorem appI_any (K : Nat → Prop) (w : World) (hK : ∀ k, K k → k < w.heap.size) (a : Option Addr) (k c : Nat) (l : List By) (h : Mine K (.slice a k c) l w) (hl : l.length ≤ 100000000000000) (u : Nat) (hu : u ≤ 9223372036854775807) (hE : Ev15 w) :
    Calls Tryd.prog 41 #[.slice a k c, .int .i64 u, .int .i64 10] w (AddA K w (l ++ dgt u)) := by
  have HC := tHid (appU_any K w hK a k c l h hl u (by omega) hE)
  unfold AddA at HC ⊢
  obtain ⟨P, hP⟩ : ∃ P : Ending → World → Prop, P = fun e V => ∃ a k c, e = .returned (.slice a k c) ∧ Hid (Mine K (.slice a k c) (l ++ dgt u) V ∧ Fr (fun k => ¬ K k) w V) := ⟨_, rfl⟩
  rw [← hP]
  have HF : Hid (∀ V a k c, Hid (Mine K (.slice a k c) (l ++ dgt u) V ∧ Fr (fun k => ¬ K k) w V) → P (.returned (.slice a k c)) V) := fun V a k c h1 => by rw [hP]; exact ⟨a, k, c, rfl, h1⟩
  clear hP h hE
  go_enter Tryd.func41, Tryd.ntmps41
  go_wp2_with (first
    | (go_at_call 50; with_reducible refine HC.out.mono ?_; rintro e w1 ⟨a', k', c', rfl, H1⟩))
  first | exact HF.out _ _ _ _ H1 | (go_ret; exact HF.out _ _ _ _ H1)
set_option maxHeartbeats 4000000 in
set_option maxRecDepth 100000 in
theorem appInt_any (K : Nat → Prop) (w : World) (hK : ∀ k, K k → k < w.heap.size) (a : Option Addr) (k c : Nat) (l : List By) (h : Mine K (.slice a k c) l w) (hl : l.length ≤ 100000000000000) (u : Nat) (hu : u ≤ 9223372036854775807) (hE : Ev15 w) :
    Calls Tryd.prog 25 #[.slice a k c, .int .i64 u, .int .i64 10] w (AddA K w (l ++ dgt u)) := by
  have HC := tHid (appI_any K w hK a k c l h hl u hu hE)
  unfold AddA at HC ⊢
  obtain ⟨P, hP⟩ : ∃ P : Ending → World → Prop, P = fun e V => ∃ a k c, e = .returned (.slice a k c) ∧ Hid (Mine K (.slice a k c) (l ++ dgt u) V ∧ Fr (fun k => ¬ K k) w V) := ⟨_, rfl⟩
  rw [← hP]
  have HF : Hid (∀ V a k c, Hid (Mine K (.slice a k c) (l ++ dgt u) V ∧ Fr (fun k => ¬ K k) w V) → P (.returned (.slice a k c)) V) := fun V a k c h1 => by rw [hP]; exact ⟨a, k, c, rfl, h1⟩
  clear hP h hE
  go_enter Tryd.func25, Tryd.ntmps25
  go_wp2_with (first
    | (go_at_call 41; with_reducible refine HC.out.mono ?_; rintro e w1 ⟨a', k', c', rfl, H1⟩))
  first | exact HF.out _ _ _ _ H1 | (go_ret; exact HF.out _ _ _ _ H1)
/-! ### Put -/
/-- The bytes under way, in a box; K: blocks that are not theirs. -/
structure PM (w : World) (K : Nat → Prop) (B : Nat) (l : List By) (V : World) : Prop where
  nw : Nw w V
  ob : w.heap.size ≤ B
  kw : ∀ k, k < w.heap.size → K k
  kb : K B
  kv : ∀ k, K k → k < V.heap.size
  c : ∃ a k c, V.heap[B]? = some (.cells #[.slice a k c] 23) ∧ Mine K (.slice a k c) l V
theorem PM.more {w : World} {K : Nat → Prop} {B : Nat} {l : List By} {V V' : World} (h : PM w K B l V) (f : Nw V V') : PM w K B l V' := by
  obtain ⟨a, k, c, h1, h2⟩ := h.c
  exact ⟨h.nw.trans f, h.ob, h.kw, h.kb, fun k hk => Nat.lt_of_lt_of_le (h.kv k hk) f.size, a, k, c, f.heap h1, h2.nw f⟩
/-- A new block that is not theirs. -/
theorem PM.also {w : World} {K : Nat → Prop} {B : Nat} {l : List By} {V : World} (h : PM w K B l V) (o : Obj) : PM w (fun k => K k ∨ k = V.heap.size) B l (V.alloc o) := by
  have h2 := h.more (V' := V.alloc o) ((Fr.refl _ _).alloc _)
  obtain ⟨a, k, c, h3, h4⟩ := h.c
  have f : Nw V (V.alloc o) := (Fr.refl _ _).alloc _
  refine ⟨h2.nw, h2.ob, fun k hk => .inl (h.kw k hk), .inl h.kb, fun k hk => ?_, a, k, c, f.heap h3, (h4.more (fun g hg => ?_)).nw f⟩
  · rcases hk with e | e
    · exact Nat.lt_of_lt_of_le (h.kv k e) f.size
    · subst e; simp
  · rcases hg with e | e
    · exact .inl e
    · exact .inr (by omega)
theorem PM.less {w : World} {K K' : Nat → Prop} {B : Nat} {l : List By} {V : World} (h : PM w K B l V) (h1 : ∀ k, K' k → K k) (h2 : ∀ k, k < w.heap.size → K' k) (h3 : K' B) : PM w K' B l V := by
  obtain ⟨a, k, c, h4, h5⟩ := h.c
  exact ⟨h.nw, h.ob, h2, h3, fun k hk => h.kv k (h1 k hk), a, k, c, h4, h5.more (fun g hg => .inl (h1 g hg))⟩
theorem PM.put {w : World} {K : Nat → Prop} {B : Nat} {V W : World} {a0 : Option Addr} {k0 c0 : Nat} {l0 : List By} (h : PM w K B l0 V) (h0 : V.heap[B]? = some (.cells #[.slice a0 k0 c0] 23)) (hF : Fr (fun k => ¬ K k) V W) {a : Option Addr} {k c : Nat} {l : List By} (hM : Mine K (.slice a k c) l W) :
    W.cell? ⟨B, 0, none⟩ = some (.slice a0 k0 c0) ∧ W.frozen? ⟨B, 0, none⟩ = false ∧ PM w K B l (W.setCell ⟨B, 0, none⟩ (.slice a k c)) ∧ Fr (fun k => ¬ K k ∨ k = B) V (W.setCell ⟨B, 0, none⟩ (.slice a k c)) := by
  have hW := hF.heapv h0 (fun e => e h.kb)
  have f := fr_set W B (.slice a k c)
  have hob := h.ob
  refine ⟨(one_cell hW).1, (one_cell hW).2, ⟨(h.nw.then hF (fun i hi => .inr ?_)).then f (fun i hi => .inr (by omega)), h.ob, h.kw, h.kb, fun k hk => Nat.lt_of_lt_of_le (Nat.lt_of_lt_of_le (h.kv k hk) hF.size) f.size, a, k, c, one_set hW, hM.kept f (fun g hg => .inl (by rw [hg]; exact h.kb))⟩, (hF.mono (fun i hi => .inl (.inl hi))).trans (f.mono (fun i hi => .inl (.inr hi)))⟩
  rcases Nat.lt_or_ge i w.heap.size with e | e
  · exact absurd (h.kw i e) hi
  · exact e
set_option maxHeartbeats 4000000 in
set_option maxRecDepth 100000 in
theorem line_any (w : World) (hE : Ev15 w) (K : Nat → Prop) (B : Nat) (l : List By) (V : World) (h : PM w K B l V) (hl : l.length ≤ 10000000000) (u : Nat) (hu : u ≤ 9223372036854775807) :
    Calls Tryd.prog 24 #[.int .i64 u, .pointer (some ⟨B, 0, none⟩)] V fun e V' => (∃ r, e = .returned r) ∧ Hid (PM w K B (l ++ lnT u) V' ∧ Fr (fun k => ¬ K k ∨ k = B) V V') := by
  obtain ⟨P, hP⟩ : ∃ P : Ending → World → Prop, P = fun e V' => (∃ r, e = .returned r) ∧ Hid (PM w K B (l ++ lnT u) V' ∧ Fr (fun k => ¬ K k ∨ k = B) V V') := ⟨_, rfl⟩
  rw [← hP]
  have HF : Hid (∀ r V', (PM w K B (l ++ lnT u) V' ∧ Fr (fun k => ¬ K k ∨ k = B) V V') → P (.returned r) V') := fun r V' k => by rw [hP]; exact ⟨⟨_, rfl⟩, k⟩
  clear hP
  obtain ⟨a, k, c, h1, h2⟩ := h.c
  obtain ⟨x0, _⟩ := one_cell h1
  have HC := tHid (appInt_any K V h.kv a k c l h2 (by omega) u hu (hE.nw h.nw))
  unfold AddA at HC
  have hds := dgt_short u (by omega)
  have HST : Hid (∀ W a' k' c', Mine K (.slice a' k' c') (l ++ dgt u) W → Fr (fun k => ¬ K k) V W → ∃ a2 k2 c2 W2, Hid (∀ ty, (Builtin.append_ #[23, 23] ty #[.slice a' k' c', .slice (some ⟨W.heap.size, 0, none⟩) 1 1]).run Tryd.prog (W.alloc (.cells #[.int .u8 10] 5)) = .ok (.slice a2 k2 c2) W2) ∧ W2.cell? ⟨B, 0, none⟩ = some (.slice a k c) ∧ W2.frozen? ⟨B, 0, none⟩ = false ∧ Hid (PM w K B (l ++ lnT u) (W2.setCell ⟨B, 0, none⟩ (.slice a2 k2 c2)) ∧ Fr (fun k => ¬ K k ∨ k = B) V (W2.setCell ⟨B, 0, none⟩ (.slice a2 k2 c2)))) := fun W a' k' c' hM hF => by
    obtain ⟨a2, k2, c2, W2, q1, q2⟩ := mine_one K W (fun k hk => Nat.lt_of_lt_of_le (h.kv k hk) hF.size) a' k' c' _ hM (by rw [List.length_append]; omega) 10#8 10 rfl
    have e : l ++ dgt u ++ [10#8] = l ++ lnT u := by rw [lnT, List.append_assoc]
    rw [e] at q2
    obtain ⟨r1, r2, r3, r4⟩ := h.put h1 (hF.trans q2.out.2) q2.out.1
    exact ⟨a2, k2, c2, W2, q1, r1, r2, r3, r4⟩
  clear h h1 h2 hE hds
  go_enter Tryd.func24, Tryd.ntmps24
  go_wp2_with (first
    | (go_at_call 25; with_reducible refine HC.out.mono ?_; rintro e w1 ⟨a', k', c', rfl, H1⟩; obtain ⟨a2, k2, c2, W2, HA, y0, y1, HPM⟩ := HST.out w1 a' k' c' H1.out.1 H1.out.2)
    | (at_builtin; refine Lib.wpList_append_run _ rfl _ _ 23 23 rfl (.slice a' k' c') (.slice (some ⟨w1.heap.size, 0, none⟩) 1 1) (by first | rfl | simp [Act.eval]) (by first | rfl | simp [Act.eval]) _ _ (HA.out _) ?_))
  go_end0
  exact HF.out _ _ HPM.out
end Go.Proofs.YtffhpoilifgcdaaDoor

namespace Go.Proofs.YtffhpoilifgcdaaDoor
open Go.RowKit
set_option linter.unusedVariables false
/-! ### Put, both -/
def natL (l : List Rg) : List (Nat × Nat) := l.map (fun x => (x.1.toNat, x.2.toNat))
theorem natL_rgL (m : List (Nat × Nat)) : natL (rgL m) = m := by
  induction m with
  | nil => rfl
  | cons x m ih =>
    have e1 : rgL (x :: m) = ((x.1 : Int), (x.2 : Int)) :: rgL m := rfl
    rw [e1]
    unfold natL at ih ⊢
    rw [List.map_cons, ih]
    rfl
def ptX (l : List Rg) : List By := if vld l 9223372036854775807 then ptT (natL l) else []
def PtA (w : World) (l : List Rg) (e : Ending) (V : World) : Prop := ∃ a k c, e = .returned (.tuple #[.slice a k c, .int .i64 (if vld l 9223372036854775807 then 0 else 1)]) ∧ Hid (Nw w V ∧ NewB w (.slice a k c) (ptX l) V)
theorem PtA.bad {w : World} {l : List Rg} {V : World} (h : vld l 9223372036854775807 = false) (hN : Nw w V) : PtA w l (.returned (.tuple #[.slice none 0 0, .int .i64 1])) V := by
  refine ⟨none, 0, 0, by rw [h]; rfl, hN, ?_⟩
  unfold ptX
  rw [h]; exact Mine.nil _ _
theorem vld_m {l : List Rg} (h : vld l 9223372036854775807 = true) : ∃ m, l = rgL m ∧ chn 0 m ∧ m.length ≤ 65536 := by
  obtain ⟨_, h2, h3⟩ := vld_iff.1 h
  obtain ⟨m, rfl⟩ := vlE_nat (e := 0) h3
  exact ⟨m, rfl, (chn_vlE 0 m).2 h3, by rw [rgL_len] at h2; exact h2⟩
theorem chn_all {e : Nat} {m : List (Nat × Nat)} (h : chn e m) : ∀ x ∈ m, x.1 ≤ x.2 ∧ x.2 ≤ 9223372036854775807 := by
  induction m generalizing e with
  | nil => simp
  | cons y m ih =>
    intro x hx
    rcases List.mem_cons.1 hx with rfl | hx
    · exact ⟨h.2.1, h.2.2.1⟩
    · exact ih h.2.2.2 x hx
theorem rgT_len (x : Nat × Nat) (h : x.2 ≤ 9223372036854775807) (h1 : x.1 ≤ x.2) : (rgT x).length ≤ 42 := by
  have h1 := dgt_short x.1 (by omega)
  have h2 := dgt_short (x.2 - x.1) (by omega)
  rw [rgT, List.length_append, lnT_len, lnT_len]; omega
theorem rgsT_len (m : List (Nat × Nat)) (h : ∀ x ∈ m, x.1 ≤ x.2 ∧ x.2 ≤ 9223372036854775807) : (rgsT m).length ≤ 42 * m.length := by
  induction m with
  | nil => simp [rgsT]
  | cons x m ih =>
    have h1 := rgT_len x (h x List.mem_cons_self).2 (h x List.mem_cons_self).1
    have h2 := ih (fun y hy => h y (List.mem_cons_of_mem _ hy))
    rw [rgsT_cons, List.length_append, List.length_cons]; omega
theorem bdT_len (m : List (Nat × Nat)) (hl : m.length ≤ 65536) (h : ∀ x ∈ m, x.1 ≤ x.2 ∧ x.2 ≤ 9223372036854775807) : (bdT m).length ≤ 3000000 := by
  have h1 := rgsT_len m h
  have h2 := dgt_short m.length (by omega)
  rw [bdT, List.length_append, lnT_len]; omega
theorem rgN_at2 {X : Nat → Prop} {a : Option Addr} {n c : Nat} {l : List (Nat × Nat)} {w : World} (h : SlR RG X (.slice a n c) (rgL l) w) (i : Nat) (hx : i < l.length) : ∃ g o, a = some ⟨g, o, none⟩ ∧ w.cell? ⟨g, o + i * 2, none⟩ = some (.int .i64 (l[i].1 : Int)) ∧ w.cell? ⟨g, o + i * 2 + 1, none⟩ = some (.int .i64 (l[i].2 : Int)) := by
  obtain ⟨g, o, e, _, h0, h1⟩ := rg_at h i (by rw [rgL_len]; exact hx)
  have e2 : (rgL l)[i]'(by rw [rgL_len]; exact hx) = ((l[i].1 : Int), (l[i].2 : Int)) := by simp [rgL]
  rw [e2] at h0 h1
  exact ⟨g, o, e, h0, h1⟩
theorem Mine.len {K : Nat → Prop} {a : Option Addr} {k c : Nat} {l : List By} {w : World} (h : Mine K (.slice a k c) l w) : k = l.length ∧ k ≤ c ∧ c < 9223372036854775808 := by
  obtain ⟨a', c', e, q1, q2⟩ := h.sl.form
  injection e with e1 e2 e3
  omega
theorem rem512 (k : Nat) : (k : Int).tmod 512 = ((k % 512 : Nat) : Int) := by
  rw [Int.tmod_eq_emod_of_nonneg (by omega)]; omega
theorem padN_lt (p : Nat) : padN p < 512 := by unfold padN; omega
set_option maxHeartbeats 8000000 in
set_option maxRecDepth 100000 in
theorem put_any {X : Nat → Prop} (w : World) (hE : Ev15 w) (a : Option Addr) (n c : Nat) (l : List Rg) (hl : SlR RG X (.slice a n c) l w) :
    Calls Tryd.prog 6 #[.slice a n c] w (PtA w l) := by
  obtain ⟨P, hP⟩ : ∃ P : Ending → World → Prop, P = PtA w l := ⟨_, rfl⟩
  rw [← hP]
  obtain ⟨hln, k1, k2⟩ := slg_len hl
  have HV := tHid (valid_any w a n c l hl 9223372036854775807)
  cases hv : vld l 9223372036854775807 with
  | false =>
    have HF : Hid (∀ V, Nw w V → P (.returned (.tuple #[.slice none 0 0, .int .i64 1])) V) := fun V hV => by rw [hP]; exact PtA.bad hv hV
    rw [hv] at HV
    clear hP hl hln hv hE
    go_enter Tryd.func6, Tryd.ntmps6
    go_wp2_with (first
      | (go_at_call 23; with_reducible refine HV.out.mono ?_; rintro e w1 ⟨rfl, H1⟩; have H1 := tHid H1))
    first | exact HF.out _ H1.out | (go_ret; exact HF.out _ H1.out)
  | true =>
    rw [hv] at HV
    obtain ⟨m, rfl, hch, hml⟩ := vld_m hv
    rw [rgL_len] at hln
    have HF : Hid (∀ w1 K B V a k c, Nw w w1 → PM w1 K B (ptT m) V → V.cell? ⟨B, 0, none⟩ = some (.slice a k c) → P (.returned (.tuple #[.slice a k c, .int .i64 0])) V) := fun w1 K B V a k c h1 h2 h3 => by
      rw [hP]
      obtain ⟨a', k', c', q1, q2⟩ := h2.c
      rw [(one_cell q1).1] at h3
      injection h3 with h3
      injection h3 with e1 e2 e3
      subst e1 e2 e3
      refine ⟨a', k', c', by rw [hv]; rfl, h1.trans h2.nw, ?_⟩
      unfold ptX
      rw [hv, if_pos rfl, natL_rgL]
      exact q2.more (fun g hg => .inl (h2.kw g (by have := h1.size; omega)))
    have hall := chn_all hch
    have hbl := bdT_len m hml hall
    have HI : Hid (∀ V, Nw w V → ∀ i (h : i < m.length), ∃ g o, a = some ⟨g, o, none⟩ ∧ V.cell? ⟨g, o + i * 2, none⟩ = some (.int .i64 (m[i].1 : Int)) ∧ V.cell? ⟨g, o + i * 2 + 1, none⟩ = some (.int .i64 (m[i].2 : Int))) := fun V hV i h => rgN_at2 (hl.nw hV) i h
    have HLI : Hid (∀ w1 K B V b0, Nw w w1 → PM w1 K B b0 V → b0.length ≤ 10000000000 → ∀ u : Nat, u ≤ 9223372036854775807 → Calls Tryd.prog 24 #[.int .i64 u, .pointer (some ⟨B, 0, none⟩)] V fun e V' => (∃ r, e = .returned r) ∧ Hid (PM w1 K B (b0 ++ lnT u) V' ∧ Fr (fun k => ¬ K k ∨ k = B) V V')) := fun w1 K B V b0 h1 h2 h3 u hu => line_any w1 (hE.nw h1) K B b0 V h2 h3 u hu
    have HAll := tHid hall
    have HBL := tHid hbl
    have HLN := tHid hln
    have hn6 : n ≤ 65536 := by omega
    have HRL : Hid (∀ i, (lnT m.length ++ rgsT (m.take i)).length ≤ 3000000) := fun i => by
      have h1 := rgsT_len (m.take i) (fun x hx => hall x (List.mem_of_mem_take hx))
      have h2 := dgt_short m.length (by omega)
      have h3 : (m.take i).length ≤ m.length := by rw [List.length_take]; omega
      rw [List.length_append, lnT_len]; omega
    clear hP hl hln hv hE hch hall hbl
    go_enter Tryd.func6, Tryd.ntmps6
    go_upto_region 3 with (first
      | (go_at_call 23; with_reducible refine HV.out.mono ?_; rintro e w1 ⟨rfl, H1⟩; have H1 := tHid H1))
    go_upto_region 5 with fail
    obtain ⟨B, hB⟩ : ∃ B, w1.heap.size = B := ⟨_, rfl⟩
    obtain ⟨V0, hV0⟩ : ∃ V0, w1.alloc (.cells #[.slice none 0 0] 23) = V0 := ⟨_, rfl⟩
    have HP0 : Hid (PM w1 (fun k => k ≤ B) B [] V0) := by
      refine ⟨by rw [← hV0]; exact (Fr.refl _ _).alloc _, by omega, fun k hk => by omega, Nat.le_refl _, fun k hk => by rw [← hV0]; simp; omega, none, 0, 0, ?_, Mine.nil _ _⟩
      rw [← hV0, ← hB]; exact nHeap _ _
    have HBw : Hid (w1.heap.size = B) := hB
    rw [hV0, hB]
    have HC1 := tHid (HLI.out w1 _ B V0 [] H1.out HP0.out (by simp) n (by omega))
    rw [List.nil_append] at HC1
    clear hV0 hB HP0 HV
    go_wp2_with fail
    refine HC1.out.mono ?_
    rintro e w2 ⟨⟨r, rfl⟩, H2⟩
    have HP2 : Hid (PM w1 (fun k => k ≤ B) B (lnT m.length ++ rgsT (m.take 0)) w2) := by
      have := H2.out.1
      rw [← HLN.out] at this
      show PM _ _ _ _ _
      rw [List.take_zero, show rgsT [] = [] from rfl, List.append_nil]
      exact this
    clear HC1 H2
    go_upto_region 7 with fail
    go_loopg [18] n (fun kx i wr => ∃ (I : Nat), I ≤ n ∧ n - I ≤ kx ∧ i = .int .i64 I ∧ Hid (PM w1 (fun k => k ≤ B) B (lnT m.length ++ rgsT (m.take I)) wr))
    case atStart => exact ⟨0, by omega, by omega, rfl, HP2⟩
    case round =>
      obtain ⟨I, hI, hkx, rfl, HL⟩ := hrel
      by_cases hlt : I < n
      · have hlt' : I < m.length := by have := HLN.out; omega
        obtain ⟨g, o, rfl, x0, x1⟩ := HI.out wr (H1.out.trans HL.out.nw) I hlt'
        have hA := HAll.out m[I] (List.getElem_mem hlt')
        have hsn : lnT m.length ++ rgsT (m.take (I + 1)) = lnT m.length ++ rgsT (m.take I) ++ lnT m[I].1 ++ lnT (m[I].2 - m[I].1) := by
          rw [List.take_add_one, List.getElem?_eq_getElem hlt']
          show lnT m.length ++ rgsT (m.take I ++ [m[I]]) = _
          rw [rgsT_snoc, rgT]
          simp only [List.append_assoc]
        have hrl := HRL.out I
        have hd1 := dgt_short m[I].1 (by omega)
        have HSN := tHid hsn
        obtain ⟨F, hF⟩ : ∃ F, m[I].1 = F := ⟨_, rfl⟩
        obtain ⟨T, hT⟩ : ∃ T, m[I].2 = T := ⟨_, rfl⟩
        rw [hF, hT] at HSN
        rw [hF] at x0 hd1
        rw [hT] at x1
        rw [hF, hT] at hA
        obtain ⟨D, hD⟩ : ∃ D, T - F = D := ⟨_, rfl⟩
        rw [hD] at HSN
        have hDi : (T : Int) - (F : Int) = (D : Int) := by omega
        obtain ⟨V1, hV1⟩ : ∃ V1, wr.alloc (.cells #[.int .i64 (F : Int), .int .i64 (T : Int)] 51) = V1 := ⟨_, rfl⟩
        have hPA := HL.out.also (.cells #[.int .i64 (F : Int), .int .i64 (T : Int)] 51)
        rw [hV1] at hPA
        have hbx : V1.heap[wr.heap.size]? = some (.cells #[.int .i64 (F : Int), .int .i64 (T : Int)] 51) := by rw [← hV1]; exact nHeap _ _
        have v0 : V1.cell? ⟨wr.heap.size, 0, none⟩ = some (.int .i64 (F : Int)) := by unfold World.cell?; rw [hbx]; rfl
        have HC2 := tHid (HLI.out w1 _ B V1 _ H1.out hPA (by omega) F (by omega))
        have HBX := tHid hbx
        have hBlt : B < wr.heap.size := HL.out.kv B (Nat.le_refl _)
        obtain ⟨Bx, hBx⟩ : ∃ Bx, wr.heap.size = Bx := ⟨_, rfl⟩
        rw [hBx] at v0 HBX hBlt HC2
        have HBx := tHid hBx
        clear hF hT hsn hPA hbx hBx HL
        generalize lnT m.length ++ rgsT (m.take I) = b0 at *
        go_upto_region 9 with fail
        rw [HBx.out]
        clear hV1
        go_wp2_with fail
        refine HC2.out.mono ?_
        rintro e w3 ⟨⟨r3, rfl⟩, H3⟩
        have hbx3 : w3.heap[Bx]? = some (.cells #[.int .i64 (F : Int), .int .i64 (T : Int)] 51) := H3.out.2.heapv HBX.out (fun h => by
          rcases h with h | h
          · exact h (.inr rfl)
          · omega)
        have u0 : w3.cell? ⟨Bx, 0, none⟩ = some (.int .i64 (F : Int)) := by unfold World.cell?; rw [hbx3]; rfl
        have u1 : w3.cell? ⟨Bx, 1, none⟩ = some (.int .i64 (T : Int)) := by unfold World.cell?; rw [hbx3]; rfl
        have HC3 := tHid (HLI.out w1 _ B w3 _ H1.out H3.out.1 (by rw [List.length_append, lnT_len]; omega) D (by omega))
        rw [← HSN.out] at HC3
        clear HC2 hbx3 HBX H3
        go_wp2_with fail
        refine HC3.out.mono ?_
        rintro e w4 ⟨⟨r4, rfl⟩, H4⟩
        have HN4 : Hid (PM w1 (fun k => k ≤ B) B (lnT m.length ++ rgsT (m.take (I + 1))) w4) := H4.out.1.less (fun k hk => .inl hk) (fun k hk => by have := HBw.out; omega) (Nat.le_refl _)
        clear HC3 H4
        go_wp2_with fail
        go_roundg (n - (I + 1))
        case measure => omega
        case rel => exact ⟨I + 1, by omega, by omega, by first | rfl | (congr 1), HN4⟩
      · obtain rfl : n = I := by omega
        have HB0 : Hid (PM w1 (fun k => k ≤ B) B (bdT m) wr) := by
          have := HL.out
          rw [List.take_of_length_le (by have := HLN.out; omega)] at this
          exact this
        clear HL HRL HI HLI HAll HP2
        go_upto_region 12 with fail
        go_loopg [] 512 (fun kx wr => ∃ j : Nat, padN ((bdT m).length + j) ≤ kx ∧ Hid (j + padN ((bdT m).length + j) = padN (bdT m).length ∧ PM w1 (fun k => k ≤ B) B (bdT m ++ List.replicate j 0#8) wr))
        case atStart => exact ⟨0, by have := padN_lt ((bdT m).length + 0); omega, by rw [Nat.zero_add]; rfl, by rw [List.replicate_zero, List.append_nil]; exact HB0.out⟩
        case round =>
          obtain ⟨j, hkx2, HJ⟩ := hrel
          obtain ⟨hj1, hj2⟩ := HJ.out
          obtain ⟨a3, k3, c3, h3, h4⟩ := hj2.c
          obtain ⟨y0, y1⟩ := one_cell h3
          obtain ⟨hk3, hkc, hcc⟩ := h4.len
          rw [List.length_append, List.length_replicate] at hk3
          have hrem := rem512 k3
          by_cases hz : k3 % 512 = 0
          · have hp0 : padN ((bdT m).length + j) = 0 := padN_zero (by rw [← hk3]; exact hz)
            rw [hz] at hrem
            have HF2 := tHid (HF.out w1 _ B wr a3 k3 c3 H1.out (by
              rw [ptT, show padN (bdT m).length = j by omega]
              exact hj2) y0)
            have hrem2 : (k3 : Int) % 512 = 0 := by omega
            clear HF HJ hj1 hj2 h3 h4 hk3 HB0
            go_wp2_with fail
            first | exact HF2.out | (go_ret; exact HF2.out)
          · have hps := padN_succ (p := (bdT m).length + j) (by rw [← hk3]; exact hz)
            have hb4 := HBL.out
            have hpl := padN_lt (bdT m).length
            obtain ⟨a2, k2, c2, W2, HA, q2⟩ := mine_one (fun k => k ≤ B) wr hj2.kv a3 k3 c3 _ h4 (by rw [List.length_append, List.length_replicate]; omega) 0#8 0 rfl
            obtain ⟨r1, r2, r3, r4⟩ := hj2.put h3 q2.out.2 q2.out.1
            obtain ⟨U, hU⟩ : ∃ U, W2.setCell ⟨B, 0, none⟩ (.slice a2 k2 c2) = U := ⟨_, rfl⟩
            rw [hU] at r3
            have HNX : Hid (j + 1 + padN ((bdT m).length + (j + 1)) = padN (bdT m).length ∧ PM w1 (fun k => k ≤ B) B (bdT m ++ List.replicate (j + 1) 0#8) U) := by
              refine ⟨by rw [← Nat.add_assoc]; omega, ?_⟩
              rw [List.replicate_succ', ← List.append_assoc]
              exact r3
            have HMS : Hid (padN ((bdT m).length + (j + 1)) < padN ((bdT m).length + j)) := by show _ < _; rw [← Nat.add_assoc]; omega
            obtain ⟨R, hR⟩ : ∃ R, k3 % 512 = R := ⟨_, rfl⟩
            rw [hR] at hrem hz
            have hrem2 : (k3 : Int) % 512 = (R : Int) := by omega
            have hRz : ¬ ((R : Int) = 0) := by omega
            clear HF HJ hj1 hj2 h3 h4 hk3 HB0 q2 r3 r4 hps hpl hb4 hR
            go_wp2_with (first
              | (at_builtin; refine Lib.wpList_append_run _ rfl _ _ 23 23 rfl (.slice a3 k3 c3) (.slice (some ⟨wr.heap.size, 0, none⟩) 1 1) (by first | rfl | simp [Act.eval]) (by first | rfl | simp [Act.eval]) _ _ (HA.out _) ?_))
            go_roundg (padN ((bdT m).length + (j + 1)))
            case measure => have := HMS.out; omega
            case rel => exact ⟨j + 1, Nat.le_refl _, HNX⟩
end Go.Proofs.YtffhpoilifgcdaaDoor
