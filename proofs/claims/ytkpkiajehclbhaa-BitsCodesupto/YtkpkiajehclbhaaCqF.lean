import Derived.Test.YtkpkiajehclbhaaCqE
namespace Go.Proofs.Ytkpkiajehclbhaa
open Go.RowKit
set_option linter.unusedVariables false
theorem swret {R : Ending → World → Prop} {a : Act} {w : World} {v0 v1 : Value} (sb : Nat) (h1 : a.tmps.getD 4 undef = .pointer (some ⟨sb, 0, none⟩)) (hrow : w.heap[sb]? = some (.cells #[v0, v1] 62)) (hd : a.defers = []) (hR : R (.returned (.tuple #[.agg #[v0, v1], a.tmps.getD 5 undef])) w) : bodyPost Try.prog Try.f36 R .ret a w := by
  have hi : (Try.prog.info? 62).map (·.size) = some (#[v0, v1] : Array Value).size := by kernel_rfl
  have hl := run_loadVar_row (P := Try.prog) w sb 62 62 #[v0, v1] (0, 0) _ hrow Try.underlying62 rfl hi
  have hp' : a.tmps[4]?.getD undef = .pointer (some ⟨sb, 0, none⟩) := by simpa using h1
  refine bodyPost_ret ?_ hd hR
  simp [results, hp', asAddr, hl]
/-- The number that the bits of a word make. -/
theorem mod_bit (x k : Nat) : x % 2 ^ (k + 1) = x % 2 ^ k + (if x / 2 ^ k % 2 = 1 then 2 ^ k else 0) := by
  rw [Nat.pow_succ, Nat.mod_mul]
  have : x / 2 ^ k % 2 < 2 := Nat.mod_lt _ (by decide)
  split
  · rename_i h; rw [h]; simp
  · rename_i h; rw [show x / 2 ^ k % 2 = 0 by omega]; simp
/-- How the word's box stands. -/
structure XbI (w : World) (sb xb : Nat) (b n : Nat) (wr : World) : Prop where
  s : wr.heap[sb]? = some (.cells #[.int .u32 0, .int .i64 0] 62)
  x : wr.heap[xb]? = some (.cells #[.int .u32 b, .int .i64 n] 62)
  ne : xb ≠ sb
  h1 : w.heap.size ≤ sb
  h2 : w.heap.size ≤ xb
  nw : Nw w wr
theorem XbI.keep {w wr V : World} {sb xb b n : Nat} (h : XbI w sb xb b n wr) (k : Nw wr V) : XbI w sb xb b n V := ⟨k.heap h.s, k.heap h.x, h.ne, h.h1, h.h2, h.nw.trans k⟩
theorem XbI.cells {w wr : World} {sb xb b n : Nat} (h : XbI w sb xb b n wr) : wr.cell? ⟨xb, 0, none⟩ = some (.int .u32 b) ∧ wr.cell? ⟨xb, 1, none⟩ = some (.int .i64 n) ∧ wr.frozen? ⟨xb, 0, none⟩ = false ∧ wr.frozen? ⟨xb, 1, none⟩ = false ∧ wr.cell? ⟨sb, 0, none⟩ = some (.int .u32 0) ∧ wr.cell? ⟨sb, 1, none⟩ = some (.int .i64 0) ∧ wr.frozen? ⟨sb, 0, none⟩ = false ∧ wr.frozen? ⟨sb, 1, none⟩ = false :=
  ⟨(row_cell h.x 0 _ rfl).1, (row_cell h.x 1 _ rfl).1, (row_cell h.x 0 _ rfl).2, (row_cell h.x 1 _ rfl).2, (row_cell h.s 0 _ rfl).1, (row_cell h.s 1 _ rfl).1, (row_cell h.s 0 _ rfl).2, (row_cell h.s 1 _ rfl).2⟩
theorem XbI.set {w wr : World} {sb xb b n : Nat} (h : XbI w sb xb b n wr) (b' : Nat) (z : Int) (hz : z = b') : XbI w sb xb b' n (wr.setCell ⟨xb, 0, none⟩ (.int .u32 z)) := by
  subst hz
  refine ⟨?_, row_set h.x 0 _, h.ne, h.h1, h.h2, h.nw.setCell _ _ (.inr h.h2)⟩
  rw [Below.heap_setCell _ _ _ _ (fun e => h.ne (by rw [e]))]
  exact h.s
set_option maxHeartbeats 16000000 in
set_option maxRecDepth 100000 in
theorem sword_any (w : World) (v : Value) (ls : List Nat) (h : SlR RI (fun k => w.heap.size ≤ k) v (toI ls) w) (hk : Cod ls) (z : Int) : Calls Try.prog 36 #[v, .int .i64 z] w fun e w' => e = .returned (wordV (wordA ls z)) ∧ Nw w w' := by
  obtain ⟨P, hP⟩ : ∃ P : Ending → World → Prop, P = fun e w' => e = .returned (wordV (wordA ls z)) ∧ Nw w w' := ⟨_, rfl⟩
  rw [← hP]
  obtain ⟨W1, hW1⟩ : ∃ W1, w.alloc (.cells #[.int .u32 0, .int .i64 0] 62) = W1 := ⟨_, rfl⟩
  have hN1 : Nw w W1 := by rw [← hW1]; exact (Fr.refl _ _).alloc _
  have hrow1 : W1.heap[w.heap.size]? = some (.cells #[.int .u32 0, .int .i64 0] 62) := by
    rw [← hW1]
    show (w.heap.push _)[w.heap.size]? = _
    rw [Array.getElem?_push_size]
  have hlen := hk.len
  have hsl : SlR RI (fun k => W1.heap.size ≤ k) v (toI ls) W1 := (h.nw hN1).mono (fun k hk => Nat.le_trans hN1.size hk)
  obtain ⟨a, c, rfl, hc, hc2, hca⟩ := h.form
  rw [toI_length] at *
  obtain ⟨y0, y1⟩ : W1.frozen? ⟨w.heap.size, 0, none⟩ = false ∧ W1.frozen? ⟨w.heap.size, 1, none⟩ = false := ⟨(row_cell hrow1 0 _ rfl).2, (row_cell hrow1 1 _ rfl).2⟩
  obtain ⟨y2, y3⟩ : W1.cell? ⟨w.heap.size, 0, none⟩ = some (.int .u32 0) ∧ W1.cell? ⟨w.heap.size, 1, none⟩ = some (.int .i64 0) := ⟨(row_cell hrow1 0 _ rfl).1, (row_cell hrow1 1 _ rfl).1⟩
  have HW1 : Hid (w.alloc (.cells #[.int .u32 0, .int .i64 0] 62) = W1) := hW1
  have HR : Hid (∀ (a : Act) (V0 : World) (v0 v1 : Value) W, Nw w V0 → V0.heap[w.heap.size]? = some (.cells #[.int .u32 0, .int .i64 0] 62) → W = (V0.setCell ⟨w.heap.size, 0, none⟩ v0).setCell ⟨w.heap.size, 1, none⟩ v1 → a.tmps.getD 4 undef = .pointer (some ⟨w.heap.size, 0, none⟩) → a.defers = [] → .tuple #[.agg #[v0, v1], a.tmps.getD 5 undef] = wordV (wordA ls z) → bodyPost Try.prog Try.f36 P .ret a W) := by
    intro a V0 v0 v1 W n1 n2 e h1 h2 h3
    subst e
    refine swret w.heap.size h1 (row_set (row_set n2 0 v0) 1 v1) h2 ?_
    rw [hP]
    refine ⟨by rw [h3], ?_⟩
    exact (n1.setCell _ _ (.inr (Nat.le_refl _))).setCell _ _ (.inr (Nat.le_refl _))
  have HN1 : Hid (Nw w W1 ∧ W1.heap[w.heap.size]? = some (.cells #[.int .u32 0, .int .i64 0] 62)) := ⟨hN1, hrow1⟩
  clear hP hW1 hN1 hrow1 h
  by_cases hz : z < 0 ∨ (ls.length : Int) ≤ z
  · have e : wordA ls z = ((0, 0), 1) := by unfold wordA; rw [if_pos hz]
    rw [e] at HR
    generalize ls.length = L at *
    clear hsl hk
    rcases hz with hz | hz
    · go_enter Try.func36, Try.ntmps36
      go_upto_region 1 with fail
      rw [HW1.out]
      go_wp2_with fail
      (try simp only [Exit.inBlock, Exit.then])
      refine HR.out _ W1 (.int .u32 0) (.int .i64 0) _ HN1.out.1 HN1.out.2 ?_ ?_ ?_ ?_ <;> rfl
    · have hz0 : 0 ≤ z := by omega
      go_enter Try.func36, Try.ntmps36
      go_upto_region 1 with fail
      rw [HW1.out]
      go_wp2_with fail
      (try simp only [Exit.inBlock, Exit.then])
      refine HR.out _ W1 (.int .u32 0) (.int .i64 0) _ HN1.out.1 HN1.out.2 ?_ ?_ ?_ ?_ <;> rfl
  · obtain ⟨i, rfl⟩ : ∃ i : Nat, z = (i : Int) := ⟨z.toNat, by omega⟩
    have hi : i < ls.length := by omega
    obtain ⟨g, o, rfl, _, c0⟩ := ri_at hsl i _ (toI_at ls i hi)
    by_cases h0 : ls.getD i 0 = 0
    · have e : wordA ls i = ((0, 0), 52) := by unfold wordA; rw [if_neg hz, Int.toNat_natCast, if_pos h0]
      rw [e] at HR
      rw [h0] at c0
      generalize ls.length = L at *
      clear hsl hk hz
      go_enter Try.func36, Try.ntmps36
      go_upto_region 1 with fail
      rw [HW1.out]
      go_wp2_with fail
      (try simp only [Exit.inBlock, Exit.then])
      refine HR.out _ W1 (.int .u32 0) (.int .i64 0) _ HN1.out.1 HN1.out.2 ?_ ?_ ?_ ?_ <;> rfl
    · have e : wordA ls i = (wdP ls i, 0) := by unfold wordA; rw [if_neg hz, Int.toNat_natCast, if_neg h0]
      rw [e] at HR
      have hl2 := wdP_lt (ls := ls) i
      have h15 := hk.each i
      have ewd : (wdP ls i).2 = ls.getD i 0 := by unfold wdP; rw [if_neg h0]
      have HW : Hid (Calls Try.prog 53 #[.slice (some ⟨g, o, none⟩) ls.length c] W1 fun e w' => ∃ gW a' c', e = .returned (.slice (some ⟨gW, 0, none⟩) ls.length ls.length) ∧ w'.cell? ⟨gW, i, none⟩ = some (.slice a' (ls.getD i 0) c') ∧ ls.getD i 0 ≤ c' ∧ c' < 9223372036854775808 ∧ Hid (In a' c' (wb ls i) w') ∧ Hid (Nw W1 w')) := by
        refine (swords_any W1 _ ls hsl hk).mono ?_
        rintro e w' ⟨gW, vs, rfl, hW⟩
        obtain ⟨a', c', q1, q2⟩ := hW.at hk i hi
        obtain ⟨a2, c2, e2, hin⟩ := q2.in' (by rw [wb_length]; omega)
        rw [wb_length] at e2
        cases e2
        have i1 := hin.1
        rw [wb_length] at i1
        exact ⟨gW, a', c', rfl, q1, i1, hin.2.1, hin, hW.nw⟩
      obtain ⟨n, hn⟩ : ∃ n, n = ls.getD i 0 := ⟨_, rfl⟩
      have hil : (i : Int) < (ls.length : Int) := by omega
      have hwl := wb_length (ls := ls) i
      obtain ⟨B, hB⟩ : ∃ B, B = (wdP ls i).1 := ⟨_, rfl⟩
      have HWB : Hid (wb ls i = bl B n) := by
        show wb ls i = bl B n
        rw [hB, hn]; rfl
      have HR3 : Hid (∀ (a : Act) (V0 : World) (xb : Nat) W, XbI w w.heap.size xb B n V0 → W = (V0.setCell ⟨w.heap.size, 0, none⟩ (.int .u32 B)).setCell ⟨w.heap.size, 1, none⟩ (.int .i64 n) → a.tmps.getD 4 undef = .pointer (some ⟨w.heap.size, 0, none⟩) → a.tmps.getD 5 undef = .int .i64 0 → a.defers = [] → bodyPost Try.prog Try.f36 P .ret a W) := fun a V0 xb W hx e1 e2 e3 e4 => by
        refine HR.out a V0 _ _ W hx.nw hx.s e1 e2 e4 ?_
        rw [e3]
        unfold wordV
        rw [hB, hn, ← ewd]
        rfl
      have hBl : B < 2 ^ n := by rw [hB, hn]; exact hl2
      rw [← hn] at HW h0 h15 c0
      generalize hL : ls.length = L at *
      clear hsl hk hz HR ewd hl2 hwl e hn hB hL
      go_enter Try.func36, Try.ntmps36
      go_upto_region 1 with fail
      rw [HW1.out]
      go_upto_region 7 with (first | (go_at_call 53; (with_reducible refine HW.out.mono ?_); rintro e w2 ⟨gW, a', c', rfl, q1, q2, q3, HI, HN2⟩))
      have HX0 : Hid (XbI w w.heap.size w2.heap.size 0 n (w2.alloc (.cells #[.int .u32 0, .int .i64 n] 62))) := by
        have hlt : w.heap.size < w2.heap.size := Nat.lt_of_lt_of_le (Array.getElem?_eq_some_iff.1 HN1.out.2).1 HN2.out.size
        refine ⟨?_, ?_, by omega, Nat.le_refl _, by omega, (HN1.out.1.trans HN2.out).trans ((Fr.refl _ _).alloc _)⟩
        · rw [hp_alloc, if_neg (by omega)]; exact HN2.out.heap HN1.out.2
        · rw [hp_alloc, if_pos rfl]; rfl
      have HV0 : Hid (Nw w2 (w2.alloc (.cells #[.int .u32 0, .int .i64 n] 62))) := (Fr.refl _ _).alloc _
      generalize w2.alloc (.cells #[.int .u32 0, .int .i64 n] 62) = w3 at *
      have HI2 : Hid (In a' c' (bl B n) w2) := by
        have := HI.out
        rw [HWB.out] at this
        exact this
      obtain ⟨xb, hxb⟩ : ∃ xb, xb = w2.heap.size := ⟨_, rfl⟩
      have HXB : Hid (w2.heap.size ≤ xb) := by show w2.heap.size ≤ xb; omega
      rw [← hxb] at HX0 ⊢
      clear hxb HI HWB HW HW1 q1 c0 HN1 HN2 y0 y1 y2 y3
      go_wp2_with fail
      go_loopg [8] n (fun kx k wr => ∃ (K : Nat), K ≤ n ∧ n - K ≤ kx ∧ k = .int .i64 K ∧ Hid (XbI w w.heap.size xb (B % 2 ^ K) n wr) ∧ Hid (Nw w2 wr))
      case atStart => exact ⟨0, by omega, by omega, rfl, (by rw [Nat.pow_zero, Nat.mod_one]; exact HX0), HV0⟩
      case round =>
        clear HX0 HV0
        obtain ⟨K, hK, hkx, rfl, HX, HV⟩ := hrel
        by_cases hltK : K < n
        · have hz : (K : Int) < (n : Int) := by omega
          obtain ⟨g2, o2, rfl, hcell⟩ := (HI2.out.nw HV.out).at K (by rw [bl_length]; exact hltK)
          have hbit : ((bl B n)[K]'(by rw [bl_length]; exact hltK)).toNat = B / 2 ^ K % 2 := by
            have h1 := bl_at B n K hltK
            rw [List.getElem?_eq_getElem (by rw [bl_length]; exact hltK)] at h1
            injection h1 with h1
            rw [h1, BitVec.toNat_ofNat]
            have : B / 2 ^ K % 2 < 2 := Nat.mod_lt _ (by decide)
            omega
          rw [hbit] at hcell
          obtain ⟨x1, x2, x3, x4, x5, x6, x7, x8⟩ := HX.out.cells
          have hst := mod_bit B K
          have hm1 : B % 2 ^ K < 2 ^ K := Nat.mod_lt _ (Nat.two_pow_pos _)
          have hp15 : (2 : Nat) ^ K ≤ 2 ^ 15 := Nat.pow_le_pow_right (by decide) (by omega)
          have hK15 : K ≤ 15 := by omega
          have hb2 : B / 2 ^ K % 2 < 2 := Nat.mod_lt _ (by decide)
          by_cases hb : B / 2 ^ K % 2 = 1
          · rw [if_pos hb] at hst
            rw [hb] at hcell
            have hT : ((2 : Int) ^ K) = ((2 ^ K : Nat) : Int) := by push_cast; rfl
            have HN : Hid (∀ z : Int, z = ((B % 2 ^ K + 2 ^ K : Nat) : Int) → XbI w w.heap.size xb (B % 2 ^ (K + 1)) n (wr.setCell ⟨xb, 0, none⟩ (.int .u32 z)) ∧ Nw w2 (wr.setCell ⟨xb, 0, none⟩ (.int .u32 z))) := fun z hz => ⟨HX.out.set _ _ (by rw [hst]; exact hz), HV.out.setCell _ _ (.inr HXB.out)⟩
            clear HX HV hst hb hbit HR3
            generalize B % 2 ^ K = Y at *
            generalize 2 ^ K = T at *
            go_wp2_with fail
            go_roundg (n - (K + 1))
            case measure => omega
            case rel => exact ⟨K + 1, by omega, by omega, by first | rfl | (congr 1), (HN.out _ (by push_cast; rfl)).1, (HN.out _ (by push_cast; rfl)).2⟩
          · rw [if_neg hb] at hst
            have hst := hst.trans (Nat.add_zero _)
            have hb0 : B / 2 ^ K % 2 = 0 := by omega
            rw [hb0] at hcell
            rw [← hst] at HX
            clear hst hb hbit HR3
            go_wp2_with fail
            go_roundg (n - (K + 1))
            case measure => omega
            case rel => exact ⟨K + 1, by omega, by omega, by first | rfl | (congr 1), HX, HV⟩
        · obtain rfl : K = n := by omega
          have hz : ¬ (K : Int) < (K : Int) := by omega
          rw [Nat.mod_eq_of_lt hBl] at HX
          obtain ⟨x1, x2, x3, x4, x5, x6, x7, x8⟩ := HX.out.cells
          clear HV
          go_wp2_with fail
          (try simp only [Exit.inBlock, Exit.then])
          refine HR3.out _ wr xb _ HX.out ?_ ?_ ?_ ?_ <;> rfl
end Go.Proofs.Ytkpkiajehclbhaa
