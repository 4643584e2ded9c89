import Derived.Test.YtkpkiajehclbhaaBjA
namespace Go.Proofs.Ytkpkiajehclbhaa
open Go.RowKit
set_option linter.unusedVariables false
variable {wb : Nat} {og : Option Nat} {V n : Nat} {w : World}
/-- The last byte is there: bits may be put into it. -/
structure Wm (wb g c : Nat) (V n : Nat) (w : World) : Prop where
  row : w.heap[wb]? = some (.cells #[.slice (some ⟨g, 0, none⟩) (n / 8 + 1) c, .int .i64 n] 46)
  ow : Ow g (.slice (some ⟨g, 0, none⟩) (n / 8 + 1) c) (lows V (n / 8 + 1)) w
  ne : g ≠ wb
  vl : V < 2 ^ n
theorem Wm.cells {g c : Nat} (h : Wm wb g c V n w) : w.cell? ⟨wb, 0, none⟩ = some (.slice (some ⟨g, 0, none⟩) (n / 8 + 1) c) ∧ w.cell? ⟨wb, 1, none⟩ = some (.int .i64 n) ∧ w.frozen? ⟨wb, 1, none⟩ = false ∧ w.cell? ⟨g, n / 8, none⟩ = some (.int .u8 (V / 256 ^ (n / 8) % 256 : Nat)) ∧ w.frozen? ⟨g, n / 8, none⟩ = false ∧ n / 8 < c ∧ c < 9223372036854775808 := by
  have hl := lows_length V (n / 8 + 1)
  obtain ⟨k1, k2⟩ := h.ow.at (n / 8) (by omega)
  have hb : (lows V (n / 8 + 1))[n / 8]'(by omega) = BitVec.ofNat 8 (V / 256 ^ (n / 8)) := by
    have : (lows V (n / 8 + 1))[n / 8]? = some (BitVec.ofNat 8 (V / 256 ^ (n / 8))) := by
      rw [lows_succ, List.getElem?_append_right (by rw [lows_length]; exact Nat.le_refl _), lows_length, Nat.sub_self]; rfl
    rw [List.getElem?_eq_getElem (by omega)] at this
    injection this
  rw [hb, BitVec.toNat_ofNat] at k1
  have ho := h.ow
  obtain ⟨xs, e1, _, x3, x4, _⟩ := ho
  injection e1 with _ _ e3
  exact ⟨(row_cell h.row 0 _ rfl).1, (row_cell h.row 1 _ rfl).1, (row_cell h.row 1 _ rfl).2, k1, k2, by omega, by omega⟩
/-- Where a byte is begun already. -/
theorem Wr.mid (h : Wr wb og V n w) (h8 : n % 8 ≠ 0) : ∃ g c, og = some g ∧ Wm wb g c V n w := by
  obtain ⟨vb, h1, h2⟩ := h.row
  rw [lows_some n h8] at h2
  cases og with
  | none =>
    have := congrArg List.length h2.2
    rw [lows_length] at this
    simp at this
  | some g =>
    have h3 := h2
    obtain ⟨xs, e, _⟩ := h2
    rw [lows_length] at e
    subst e
    exact ⟨g, _, rfl, h1, h3, fun e => h.ne (by rw [e]), h.vl⟩
/-- Where one begins. -/
theorem Wr.mid0 (h : Wr wb og V n w) (h8 : n % 8 = 0) (hn : n ≤ 1000000000000000) : ∃ v0 v' g c W, w.cell? ⟨wb, 0, none⟩ = some v0 ∧ (∃ a L c, v0 = .slice a L c) ∧ (∃ a L c, v' = .slice a L c) ∧ Hid (∀ ty, (Builtin.append_ #[22, 22] ty #[v0, .slice (some ⟨w.heap.size, 0, none⟩) 1 1]).run Try.prog (w.alloc (.cells #[.int .u8 0] 5)) = .ok v' W) ∧ (∃ x, W.cell? ⟨wb, 0, none⟩ = some x) ∧ W.frozen? ⟨wb, 0, none⟩ = false ∧ Wm wb g c V n (W.setCell ⟨wb, 0, none⟩ v') ∧ Fr (fun k => k = wb ∨ og = some k) w (W.setCell ⟨wb, 0, none⟩ v') ∧ Went og (some g) w := by
  obtain ⟨vb, h1, h2⟩ := h.row
  have hlt := h.lt
  obtain ⟨v', og', W, k1, k2, k3, k4⟩ := og_step w og vb _ h2 (by rw [lows_length]; omega) 0#8 0 rfl
  rw [lows_zero V n h.vl h8] at k2
  cases og' with
  | none =>
    have := congrArg List.length k2.2
    rw [lows_length] at this
    simp at this
  | some g =>
    have hne : g ≠ wb := fun e => k4.ne wb h.ne hlt (by rw [e])
    have k2' := k2
    obtain ⟨xs, e, _⟩ := k2
    rw [lows_length] at e
    subst e
    have hrow := row_kept h1 k3 h.ne
    have f : Fr (fun k => k = wb) W (W.setCell ⟨wb, 0, none⟩ (.slice (some ⟨g, 0, none⟩) (n / 8 + 1) xs.length)) := (Fr.refl _ _).setCell _ _ (.inl rfl)
    obtain ⟨a, c, e, _, _⟩ := h2.form
    refine ⟨vb, _, g, xs.length, W, (row_cell h1 0 _ rfl).1, ⟨a, _, c, e⟩, ⟨_, _, _, rfl⟩, k1, ⟨_, (row_cell hrow 0 _ rfl).1⟩, (row_cell hrow 0 _ rfl).2, ⟨row_set hrow 0 _, Ow.kept k2' f hne, hne, h.vl⟩, ?_, k4⟩
    exact (k3.mono (fun i hi => .inl (.inr hi))).trans (f.mono (fun i hi => .inl (.inl hi)))
/-- Bits into the last byte, and how many there are. -/
theorem Wm.put {g c : Nat} (h : Wm wb g c V n w) (v k j : Nat) (hk : k = min (8 - n % 8) j) (hj : 0 < j) (hv : v < 2 ^ j) (hv2 : v < 4294967296) :
    ∃ y : Nat, bits .or .u8 ((V / 256 ^ (n / 8) % 256 : Nat) : Int) ((v * 2 ^ (n % 8) % 256 : Nat) : Int) = (y : Int) ∧ y < 256 ∧ ∀ W, Nw (w.setCell ⟨g, n / 8, none⟩ (.int .u8 y)) W → W.cell? ⟨wb, 1, none⟩ = some (.int .i64 n) ∧ W.frozen? ⟨wb, 1, none⟩ = false ∧ ∀ z : Int, z = ((n + k : Nat) : Int) → Wr wb (some g) (V + (v % 2 ^ k) * 2 ^ n) (n + k) (W.setCell ⟨wb, 1, none⟩ (.int .i64 z)) ∧ Fr (fun k => k = wb ∨ k = g) w (W.setCell ⟨wb, 1, none⟩ (.int .i64 z)) := by
  obtain ⟨e1, e2⟩ := or_byte V n v k j h.vl hk hv hv2
  have hk8 : k ≤ 8 - n % 8 := by omega
  have hk0 : 0 < k := by omega
  refine ⟨_, e1, e2, fun W hW => ?_⟩
  obtain ⟨p1, p2⟩ := lows_put V n v k h.vl hk8 hk0 (BitVec.ofNat 8 (V / 256 ^ (n / 8) % 256 + (v % 2 ^ k) * 2 ^ (n % 8))) (by rw [BitVec.toNat_ofNat, Nat.mod_eq_of_lt e2])
  have hl := lows_length V (n / 8 + 1)
  have o1 := h.ow.put (n / 8) (by omega) (BitVec.ofNat 8 (V / 256 ^ (n / 8) % 256 + (v % 2 ^ k) * 2 ^ (n % 8))) ((V / 256 ^ (n / 8) % 256 + (v % 2 ^ k) * 2 ^ (n % 8) : Nat) : Int) (by rw [BitVec.toNat_ofNat, Nat.mod_eq_of_lt e2])
  rw [p1] at o1
  generalize V / 256 ^ (n / 8) % 256 + (v % 2 ^ k) * 2 ^ (n % 8) = y at *
  have f1 : Fr (fun k => k = g) w (w.setCell ⟨g, n / 8, none⟩ (.int .u8 y)) := (Fr.refl _ _).setCell _ _ (.inl rfl)
  have o2 := o1.nw hW
  have hrow := row_kept (row_kept h.row f1 (fun e => h.ne e.symm)) hW (fun h => h)
  refine ⟨(row_cell hrow 1 _ rfl).1, (row_cell hrow 1 _ rfl).2, fun z hz => ?_⟩
  subst hz
  have f2 : Fr (fun k => k = wb) W (W.setCell ⟨wb, 1, none⟩ (.int .i64 ((n + k : Nat) : Int))) := (Fr.refl _ _).setCell _ _ (.inl rfl)
  exact ⟨⟨⟨_, row_set hrow 1 _, Ow.kept o2 f2 h.ne⟩, fun e => h.ne (by injection e), p2⟩, ((f1.mono (fun i hi => .inl (.inr hi))).trans hW.any).trans (f2.mono (fun i hi => .inl (.inl hi)))⟩
/-- How Put stands in its loop. -/
def PtI (wb : Nat) (og : Option Nat) (Vf Nf : Nat) (w : World) (v j : Nat) (og' : Option Nat) (V n : Nat) (wr : World) : Prop :=
  Wr wb og' V n wr ∧ V + v * 2 ^ n = Vf ∧ n + j = Nf ∧ v < 2 ^ j ∧ Fr (fun k => k = wb ∨ og = some k) w wr ∧ Went og og' w
theorem PtI.next {Vf Nf v j k : Nat} {og' og'' : Option Nat} {V n : Nat} {wr W : World} (h : PtI wb og Vf Nf w v j og' V n wr) (hk : k ≤ j) (hW : Wr wb og'' (V + (v % 2 ^ k) * 2 ^ n) (n + k) W) (hF : Fr (fun k => k = wb ∨ og' = some k) wr W) (hG : Went og' og'' wr) (hwb : wb < w.heap.size) :
    PtI wb og Vf Nf w (v / 2 ^ k) (j - k) og'' (V + (v % 2 ^ k) * 2 ^ n) (n + k) W := by
  obtain ⟨h1, h2, h3, h4, h5, h6⟩ := h
  refine ⟨hW, ?_, by omega, ?_, ?_, h6.trans hG h5.size⟩
  · rw [← h2, Nat.add_assoc]
    congr 1
    rw [Nat.pow_add, Nat.mul_comm (2 ^ n), ← Nat.mul_assoc, ← Nat.add_mul]
    congr 1
    rw [Nat.mul_comm]
    exact Nat.mod_add_div v (2 ^ k)
  · rw [Nat.div_lt_iff_lt_mul (Nat.pow_pos (by decide)), ← Nat.pow_add, Nat.sub_add_cancel hk]; exact h4
  · refine Fr.then h5 hF (fun i hi => ?_)
    rcases hi with rfl | hi
    · exact .inl (.inl rfl)
    · rcases h6 with rfl | ⟨g, rfl, hg⟩
      · exact .inl (.inr hi)
      · injection hi with hi; subst hi; exact .inr hg
/-- The last byte is there, and what follows when bits are put into it. -/
def MidP (wb J n1 x y s : Nat) (R : World → Prop) (wx : World) : Prop := ∃ g c J1, J1 = J + 1 ∧ wx.cell? ⟨wb, 0, none⟩ = some (.slice (some ⟨g, 0, none⟩) J1 c) ∧ wx.cell? ⟨wb, 1, none⟩ = some (.int .i64 n1) ∧ wx.cell? ⟨g, J, none⟩ = some (.int .u8 x) ∧ wx.frozen? ⟨g, J, none⟩ = false ∧ J < c ∧ c < 9223372036854775808 ∧ Hid (∀ W, Nw (wx.setCell ⟨g, J, none⟩ (.int .u8 y)) W → W.cell? ⟨wb, 1, none⟩ = some (.int .i64 n1) ∧ W.frozen? ⟨wb, 1, none⟩ = false ∧ R (W.setCell ⟨wb, 1, none⟩ (.int .i64 s)))
theorem PtI.round {Vf Nf v j : Nat} {og1 : Option Nat} {V1 n1 : Nat} {wr : World} (h : PtI wb og Vf Nf w v j og1 V1 n1 wr) (hj0 : 0 < j) (hwb : wb < w.heap.size) (hv : v < 4294967296) (hn : Nf ≤ 1000000000000000) :
    ∃ u k q d J x y s : Nat, (u = n1 % 8 ∧ k = min (8 - u) j ∧ q = v / 2 ^ k ∧ d = j - k ∧ J = n1 / 8 ∧ x < 256 ∧ y < 256 ∧ s = n1 + k ∧ n1 ≤ 1000000000000000) ∧ bits .or .u8 (x : Int) ((v * 2 ^ u % 256 : Nat) : Int) = (y : Int) ∧ wr.cell? ⟨wb, 1, none⟩ = some (.int .i64 n1) ∧
      ((u = 0 ∧ ∃ a L c a2 L2 c2 W, wr.cell? ⟨wb, 0, none⟩ = some (.slice a L c) ∧ Hid (∀ ty, (Builtin.append_ #[22, 22] ty #[.slice a L c, .slice (some ⟨wr.heap.size, 0, none⟩) 1 1]).run Try.prog (wr.alloc (.cells #[.int .u8 0] 5)) = .ok (.slice a2 L2 c2) W) ∧ (∃ x, W.cell? ⟨wb, 0, none⟩ = some x) ∧ W.frozen? ⟨wb, 0, none⟩ = false ∧ Hid (MidP wb J n1 x y s (fun W => ∃ og' V n, PtI wb og Vf Nf w q d og' V n W) (W.setCell ⟨wb, 0, none⟩ (.slice a2 L2 c2)))) ∨ (u ≠ 0 ∧ Hid (MidP wb J n1 x y s (fun W => ∃ og' V n, PtI wb og Vf Nf w q d og' V n W) wr))) := by
  obtain ⟨hR, h2, h3, h4, h5, h6⟩ := id h
  obtain ⟨e1, e2⟩ := or_byte V1 n1 v (min (8 - n1 % 8) j) j hR.vl rfl h4 hv
  have hmid : ∀ g c wx, Wm wb g c V1 n1 wx → Fr (fun k => k = wb ∨ og1 = some k) wr wx → Went og1 (some g) wr → MidP wb (n1 / 8) n1 (V1 / 256 ^ (n1 / 8) % 256) (V1 / 256 ^ (n1 / 8) % 256 + (v % 2 ^ min (8 - n1 % 8) j) * 2 ^ (n1 % 8)) (n1 + min (8 - n1 % 8) j) (fun W => ∃ og' V n, PtI wb og Vf Nf w (v / 2 ^ min (8 - n1 % 8) j) (j - min (8 - n1 % 8) j) og' V n W) wx := by
    intro g c wx hm hf hw
    obtain ⟨c0, c1, c2, c3, c4, c5, c6⟩ := hm.cells
    obtain ⟨y, p1, p2, p3⟩ := hm.put v (min (8 - n1 % 8) j) j rfl hj0 h4 hv
    have hy : V1 / 256 ^ (n1 / 8) % 256 + (v % 2 ^ min (8 - n1 % 8) j) * 2 ^ (n1 % 8) = y := by
      have := e1.symm.trans p1
      exact Int.ofNat.inj this
    rw [hy]
    refine ⟨g, c, _, rfl, c0, c1, c3, c4, c5, c6, fun W hW => ?_⟩
    obtain ⟨q1, q2, q3⟩ := p3 W hW
    obtain ⟨r1, r2⟩ := q3 _ rfl
    refine ⟨q1, q2, some g, _, _, h.next (Nat.min_le_right _ _) r1 ?_ hw hwb⟩
    refine hf.then r2 (fun i hi => ?_)
    rcases hi with rfl | rfl
    · exact .inl (.inl rfl)
    · rcases hw with e | ⟨g', e, hg'⟩
      · exact .inl (.inr e.symm)
      · injection e with e; subst e; exact .inr hg'
  refine ⟨n1 % 8, min (8 - n1 % 8) j, _, _, n1 / 8, V1 / 256 ^ (n1 / 8) % 256, V1 / 256 ^ (n1 / 8) % 256 + (v % 2 ^ min (8 - n1 % 8) j) * 2 ^ (n1 % 8), _, ⟨rfl, rfl, rfl, rfl, rfl, Nat.mod_lt _ (by decide), e2, rfl, by omega⟩, e1, ?_, ?_⟩
  · obtain ⟨vb, k1, _⟩ := hR.row
    exact (row_cell k1 1 _ rfl).1
  · by_cases h8 : n1 % 8 = 0
    · obtain ⟨v0, v', g, c, W, k1, ⟨a, L, c', rfl⟩, ⟨a2, L2, c2, rfl⟩, k3, k4, k5, k6, k7, k8⟩ := hR.mid0 h8 (by omega)
      exact .inl ⟨h8, a, L, c', a2, L2, c2, W, k1, k3, k4, k5, hmid g c _ k6 k7 k8⟩
    · obtain ⟨g, c, rfl, k⟩ := hR.mid h8
      exact .inr ⟨h8, hmid g c wr k (Fr.refl _ _) (.inl rfl)⟩
end Go.Proofs.Ytkpkiajehclbhaa
