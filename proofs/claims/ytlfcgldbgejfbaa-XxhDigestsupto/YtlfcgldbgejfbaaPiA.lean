import Derived.Test.YtlfcgldbgejfbaaXxW
import Derived.Test.YtlfcgldbgejfbaaXxZ
import Derived.Lib.AppendZeros
namespace Go.Proofs.Ytlfcgldbgejfbaa
open Go.RowKit
set_option linter.unusedVariables false
/-- All that came so far: nil, or a slice of the call's own, apart from two blocks. -/
def AllS (B d1 d2 : Nat) (v : Value) (l : List By) (w : World) : Prop := (v = .slice none 0 0 ∧ l = []) ∨ ∃ g, B ≤ g ∧ g ≠ d1 ∧ g ≠ d2 ∧ Ow g v l w
theorem AllS.kept {B d1 d2 : Nat} {v : Value} {l : List By} {w w' : World} {X : Nat → Prop} (h : AllS B d1 d2 v l w) (f : Fr X w w') (hx : ∀ g, X g → g = d1 ∨ g = d2) : AllS B d1 d2 v l w' := by
  rcases h with h | ⟨g, h1, h2, h3, h4⟩
  · exact .inl h
  · exact .inr ⟨g, h1, h2, h3, h4.kept f (fun hg => by rcases hx g hg with e | e; exact h2 e; exact h3 e)⟩
theorem AllS.old {B d1 d2 : Nat} {v : Value} {l : List By} {w : World} (h : AllS B d1 d2 v l w) : Old w v l := by
  rcases h with ⟨h1, h2⟩ | ⟨g, _, _, _, h4⟩
  · exact .inl ⟨none, h1, h2⟩
  · exact h4.old
theorem app_nil (w : World) (x : Value) (m : List By) (hx : Sl (fun _ => False) x m w) (hb : m.length ≤ 140737488355328) (hm : m ≠ []) :
    ∃ v' W, (∀ ty, (Builtin.append_ #[24, 24] ty #[.slice none 0 0, x]).run Try.prog w = .ok v' W) ∧ Ow w.heap.size v' m W ∧ Nw w W := by
  obtain ⟨i, hi, hz, hs, hby⟩ := infoB
  have hsrc := srcB w x m hx
  have hm0 : 0 < m.length := List.length_pos_iff.2 hm
  have hrun := fun ty => run_append_grow_src w 24 24 ty 5 i _ Try.underlying24 hi hz none 0 0 [] (by simp [Builtin.firstCells]) x m.length _ (by rw [hs]; exact hsrc) (by omega) (by omega) (by rw [hby]; exact growslice_fits (by omega) (by omega))
  have hge := grownCap_ge w (0 + m.length) 0 5
  have hle := grownCap_le_maxLen w (0 + m.length) 0 5 (by unfold maxLen; omega)
  unfold maxLen at hle
  generalize grownCap w (0 + m.length) 0 5 = G at *
  refine ⟨_, _, hrun, ?_, (Fr.refl _ _).drew.alloc _⟩
  have e : (([] ++ m.map bv).toArray ++ Builtin.zeroCells (Value.int .u8 0).cells (G - (0 + m.length))) = ((m ++ List.replicate (G - (0 + m.length)) 0#8).map bv).toArray := by
    rw [zeroB]; simp
  rw [e]
  refine ⟨m ++ List.replicate (G - (0 + m.length)) 0#8, ?_, ?_, ?_, ?_, ?_⟩
  · simp; omega
  · rw [List.take_append_of_le_length (by simp), List.take_of_length_le (by simp)]
  · simp
  · simp; omega
  · show (w.heap.push _)[w.heap.size]? = _
    simp
theorem app_none (w : World) (x : Value) (a : Option Addr) (hx : x = .slice a 0 0) : ∀ ty, (Builtin.append_ #[24, 24] ty #[.slice none 0 0, x]).run Try.prog w = .ok (.slice none 0 0) w := by
  intro ty
  subst hx
  obtain ⟨i, hi, hz, hs, hb⟩ := infoB
  cases a with
  | none => simp [Builtin.append_, run_underlying Try.underlying24, sizeOf, typeInfo, hi, Builtin.lenOf, Builtin.firstCells]
  | some a =>
    have hl : (loadCells a 0).run Try.prog w = .ok #[] w := run_loadCells_list (P := Try.prog) w a [] (fun j v hj => by simp at hj)
    simp [Builtin.append_, run_underlying Try.underlying24, sizeOf, typeInfo, hi, Builtin.lenOf, Builtin.firstCells, hl]
theorem app_none' (w : World) (g o c : Nat) : ∀ ty, (Builtin.append_ #[24, 24] ty #[.slice none 0 0, .slice (some ⟨g, o, none⟩) 0 c]).run Try.prog w = .ok (.slice none 0 0) w := by
  intro ty
  obtain ⟨i, hi, hz, hs, hb⟩ := infoB
  have hl : (loadCells ⟨g, o, none⟩ 0).run Try.prog w = .ok #[] w := run_loadCells_list (P := Try.prog) w ⟨g, o, none⟩ [] (fun j v hj => by simp at hj)
  simp [Builtin.append_, run_underlying Try.underlying24, sizeOf, typeInfo, hi, Builtin.lenOf, Builtin.firstCells, hl]
/-- One more piece behind all that came. -/
theorem all_app (B d1 d2 : Nat) (w : World) (v : Value) (l : List By) (h : AllS B d1 d2 v l w) (hB : B ≤ w.heap.size) (hd1 : d1 < w.heap.size) (hd2 : d2 < w.heap.size) (x : Value) (m : List By) (hx : Sl (fun _ => False) x m w) (hb : l.length + m.length ≤ 140737488355328) :
    ∃ v' W, (∀ ty, (Builtin.append_ #[24, 24] ty #[v, x]).run Try.prog w = .ok v' W) ∧ AllS B d1 d2 v' (l ++ m) W ∧ Fr (fun k => B ≤ k ∧ k ≠ d1 ∧ k ≠ d2) w W := by
  rcases h with ⟨rfl, rfl⟩ | ⟨g, h1, h2, h3, h4⟩
  · by_cases hm : m = []
    · subst hm
      refine ⟨.slice none 0 0, w, ?_, .inl ⟨rfl, rfl⟩, Fr.refl _ _⟩
      rcases hx with ⟨a, rfl, _⟩ | ⟨g, _, o, c, rfl, _, _, _⟩
      · exact app_none w _ a rfl
      · exact app_none' w g o c
    · obtain ⟨v', W, k1, k2, k3⟩ := app_nil w x m hx (by simpa using hb) hm
      exact ⟨v', W, k1, .inr ⟨_, hB, by omega, by omega, by rw [List.nil_append]; exact k2⟩, k3.any⟩
  · obtain ⟨v', g', W, k1, k2, k3, k4⟩ := app_any w g v l h4 x m hx hb
    refine ⟨v', W, k1, .inr ⟨g', ?_, ?_, ?_, k2⟩, k3.mono (fun i hi => .inl (by subst hi; exact ⟨h1, h2, h3⟩))⟩ <;> rcases k4 with rfl | k4 <;> omega
def cat (P : Nat → List By) : Nat → List By
  | 0 => []
  | k + 1 => cat P k ++ P k
theorem cat_le (P : Nat → List By) (k n : Nat) (h : k ≤ n) : (cat P k).length ≤ (cat P n).length := by
  induction n with
  | zero => have : k = 0 := by omega
            subst this; exact Nat.le_refl _
  | succ n ih =>
    by_cases hk : k = n + 1
    · rw [hk]; exact Nat.le_refl _
    · have := ih (by omega)
      simp only [cat, List.length_append]; omega
/-- What holds ahead of piece k. -/
structure PInv (w : World) (s1 : BitVec 32) (s2 : BitVec 64) (d1 d2 : Nat) (l : List By) (v : Value) (wr : World) : Prop where
  t1 : Took32 d1 s1 l wr
  t2 : Took64 d2 s2 l wr
  all : AllS w.heap.size d1 d2 v l wr
  nw : Nw w wr
theorem Took32.lt' {d : Nat} {s : BitVec 32} {l : List By} {w : World} (h : Took32 d s l w) : d < w.heap.size := h.lt
set_option maxHeartbeats 4000000 in
/-- A piece: written twice, and put behind all. -/
theorem piece_step (w : World) (s1 : BitVec 32) (s2 : BitVec 64) (d1 d2 : Nat) (hd : d1 ≠ d2) (hw1 : w.heap.size ≤ d1) (hw2 : w.heap.size ≤ d2) (l m : List By) (v x : Value) (wr : World) (h : PInv w s1 s2 d1 d2 l v wr) (hx : Old w x m) (hb : l.length + m.length ≤ 140737488355328) :
    ∃ v1 W1, Hid (∀ ty, (Builtin.append_ #[24, 24] ty #[.slice (some ⟨wr.heap.size, 0, none⟩) 0 0, x]).run Try.prog (wr.alloc (.cells #[] 5)) = .ok v1 W1) ∧
      Hid (Calls Try.prog 20 #[.pointer (some ⟨d1, 0, none⟩), v1] W1 fun e w2 => (∃ r, e = .returned r) ∧ Nw w w2 ∧
        ∃ v3 W3, Hid (∀ ty, (Builtin.append_ #[24, 24] ty #[.slice (some ⟨w2.heap.size, 0, none⟩) 0 0, x]).run Try.prog (w2.alloc (.cells #[] 5)) = .ok v3 W3) ∧
          Hid (Calls Try.prog 21 #[.pointer (some ⟨d2, 0, none⟩), v3] W3 fun e w4 => (∃ r, e = .returned r) ∧ Nw w w4 ∧
            ∃ v5 W5, Hid (∀ ty, (Builtin.append_ #[24, 24] ty #[v, x]).run Try.prog w4 = .ok v5 W5) ∧ Hid (PInv w s1 s2 d1 d2 (l ++ m) v5 W5))) := by
  have hlt1 := h.t1.lt
  have hlt2 := h.t2.lt
  obtain ⟨v1, g1, W1, hap1, hO1, hF1, hg1⟩ := app_any (wr.alloc (.cells #[] 5)) wr.heap.size _ [] (Ow.empty wr) x m ((hx.nw (h.nw.alloc _)).mono (fun _ h => h.elim)) (by simp; omega)
  rw [List.nil_append] at hO1
  have hN1 : Nw wr W1 := Fr.then ((Fr.refl _ _).alloc _) hF1 (fun i hi => .inr (by omega))
  have hg1' : wr.heap.size ≤ g1 := by rcases hg1 with h | h; omega; simp at h; omega
  refine ⟨v1, W1, hap1, ?_⟩
  show Calls _ _ _ _ _
  refine (write32_any d1 s1 l v1 m W1 (h.t1.nw hN1) (.inr ⟨g1, by omega, hO1.slb⟩)).mono ?_
  rintro e w2 ⟨hr, hT, hF⟩
  have hNw2 : Nw w w2 := Fr.then (h.nw.trans hN1) hF (fun i hi => .inr (by omega))
  have hs2 : wr.heap.size ≤ w2.heap.size := Nat.le_trans hN1.size hF.size
  obtain ⟨v3, g3, W3, hap3, hO3, hF3, hg3⟩ := app_any (w2.alloc (.cells #[] 5)) w2.heap.size _ [] (Ow.empty w2) x m ((hx.nw (hNw2.alloc _)).mono (fun _ h => h.elim)) (by simp; omega)
  rw [List.nil_append] at hO3
  have hN3 : Nw w2 W3 := Fr.then ((Fr.refl _ _).alloc _) hF3 (fun i hi => .inr (by omega))
  have hg3' : w2.heap.size ≤ g3 := by rcases hg3 with h | h; omega; simp at h; omega
  refine ⟨hr, hNw2, v3, W3, hap3, ?_⟩
  show Calls _ _ _ _ _
  have hT2 : Took64 d2 s2 l W3 := ((h.t2.nw hN1).kept hF (fun e => hd e.symm)).nw hN3
  refine (write64_any d2 s2 l v3 m W3 hT2 (.inr ⟨g3, by omega, hO3.slb⟩)).mono ?_
  rintro e w4 ⟨hr4, hT4, hF4⟩
  have hNw4 : Nw w w4 := Fr.then (hNw2.trans hN3) hF4 (fun i hi => .inr (by omega))
  have hs4 : w2.heap.size ≤ w4.heap.size := Nat.le_trans hN3.size hF4.size
  have hA4 : AllS w.heap.size d1 d2 v l w4 := (((h.all.kept hN1 (fun _ h => h.elim)).kept hF (fun g hg => .inl hg)).kept hN3 (fun _ h => h.elim)).kept hF4 (fun g hg => .inr hg)
  obtain ⟨v5, W5, hap5, hA5, hF5⟩ := all_app w.heap.size d1 d2 w4 v l hA4 hNw4.size (by omega) (by omega) x m ((hx.nw hNw4).mono (fun _ h => h.elim)) hb
  refine ⟨hr4, hNw4, v5, W5, hap5, ?_⟩
  exact ⟨((hT.nw hN3).kept hF4 (fun e => hd e)).kept hF5 (fun hx => hx.2.1 rfl), hT4.kept hF5 (fun hx => hx.2.2 rfl), hA5, Fr.then hNw4 hF5 (fun i hi => .inr hi.1)⟩
end Go.Proofs.Ytlfcgldbgejfbaa
