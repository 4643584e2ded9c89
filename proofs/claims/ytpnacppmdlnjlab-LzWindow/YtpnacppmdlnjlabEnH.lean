import Derived.Test.YtpnacppmdlnjlabEnF
import Derived.Test.YtpnacppmdlnjlabEnG
import Derived.Test.YtpnacppmdlnjlabMaG
namespace Go.Proofs.Ytpnacppmdlnjlab
open Go.RowKit
set_option linter.unusedVariables false
theorem PLs.kept {pb gT cT nb fb nx : Nat} {T : List By} {w w' : World} {X : Nat → Prop} (h : PLs pb gT cT nb fb nx T w) (f : Fr X w w') (h1 : ¬ X pb) (h2 : ¬ X gT) (h3 : ¬ X nb) (h4 : ¬ X fb) : PLs pb gT cT nb fb nx T w' :=
  ⟨(f.block pb (Array.getElem?_eq_some_iff.1 h.blk).1 h1).trans h.blk, fun j hj => f.cellv (h.txt j hj) h2, h.near.kept f h3, h.far.kept f h4, h.d1, h.d2, h.d3, h.d4, h.d5, h.d6, h.tl, h.tc⟩
/-- How the encoder's loop stands. -/
structure EnI (w : World) (W0 pb gT cT A : Nat) (T : List By) (b a : Nat) (ms : List Sq) (nb fb nx : Nat) (vb : Value) (wr : World) : Prop where
  pls : PLs pb gT cT nb fb nx T wr
  nx : nx ≤ a
  ei : EI T A b a ms
  al : a ≤ T.length
  mine : Mine (fun k => k < W0) vb (ms.flatMap encS) wr
  lo : w.heap.size ≤ pb ∧ w.heap.size ≤ nb ∧ w.heap.size ≤ fb
  hi : pb < W0 ∧ gT < W0 ∧ nb < W0 ∧ fb < W0
  nw : Nw w wr
  ent : ∀ r, EncTo T b a ms r → EncTo T A A [] r
  sz : W0 ≤ wr.heap.size
  wz : w.heap.size ≤ W0
abbrev EnR (w : World) (W0 pb gT cT A : Nat) (T : List By) (b a : Nat) (vb : Value) (wr : World) : Prop := ∃ ms nb fb nx, EnI w W0 pb gT cT A T b a ms nb fb nx vb wr
theorem encP_sq (s : Sq) (h : canS s) : encP ⟨s.p, s.b, s.n⟩ = encS s := by
  unfold encP
  rw [if_neg (by have := h.1; show ¬ (s.b : Int) = 0; omega)]
  simp
/-- A round with no hit. -/
theorem EnR.skip {w : World} {W0 pb gT cT A : Nat} {T : List By} {b a : Nat} {vb : Value} {wr : World} (h : EnR w W0 pb gT cT A T b a vb wr) (hT : T.length ≤ 10000000) (h12 : a + 12 ≤ T.length) (hf : fnd T a = none) :
    Hid (Calls Try.prog 15 #[.pointer (some ⟨pb, 0, none⟩), .int .i64 a] wr fun e w1 => ∃ q : Nat, e = .returned (.tuple #[.int .i64 q, .bool false]) ∧ Hid (EnR w W0 pb gT cT A T b (a + 1) vb w1)) := by
  obtain ⟨ms, nb, fb, nx, h⟩ := h
  show Calls _ _ _ _ _
  refine (find_any wr pb gT cT nb fb nx T h.pls a h.nx (by omega) (by omega)).mono ?_
  rintro e w1 ⟨q, rfl, _, nb', fb', hL, hF, hnf⟩
  refine ⟨q, by rw [hf]; rfl, ?_⟩
  have hhi := h.hi
  have hlo := h.lo
  have hFz : ∀ k, (k = pb ∨ k = nb ∨ k = fb) → k < W0 := fun k hk => by rcases hk with rfl | rfl | rfl; exact hhi.1; exact hhi.2.2.1; exact hhi.2.2.2
  refine ⟨ms, nb', fb', a, hL, Nat.le_succ _, h.ei.skip, by omega, ?_, by rcases hnf with ⟨rfl, rfl⟩ | ⟨rfl, rfl⟩ <;> omega, by rcases hnf with ⟨rfl, rfl⟩ | ⟨rfl, rfl⟩ <;> omega, ?_, fun r hr => h.ent r (.skip h12 hf hr), Nat.le_trans h.sz hF.size, h.wz⟩
  · exact h.mine.kept hF (fun k hk => .inl (hFz k hk))
  · exact Fr.then h.nw hF (fun k hk => .inr (by rcases hk with rfl | rfl | rfl <;> omega))
/-- A round with a hit. -/
theorem EnR.hit {w : World} {W0 pb gT cT A : Nat} {T : List By} {b a : Nat} {vb : Value} {wr : World} (h : EnR w W0 pb gT cT A T b a vb wr) (hT : T.length ≤ 10000000) (h12 : a + 12 ≤ T.length) (f k n : Nat) (hf : fnd T a = some f) (hk : k = alkA T b f a) (hn : n = cm ((T.take (T.length - 5)).drop (f - k)) ((T.take (T.length - 5)).drop (a - k))) :
    Hid (Calls Try.prog 15 #[.pointer (some ⟨pb, 0, none⟩), .int .i64 a] wr fun e w1 => e = .returned (.tuple #[.int .i64 f, .bool true]) ∧ Hid (Calls Try.prog 16 #[.slice (some ⟨gT, 0, none⟩) T.length cT, .int .i64 f, .int .i64 a, .int .i64 b] w1 fun e w2 => e = .returned (.int .i64 k) ∧ Hid (Calls Try.prog 17 #[.slice (some ⟨gT, 0, none⟩) (T.length - 5) cT, .int .i64 (f - k : Nat), .int .i64 (a - k : Nat)] w2 fun e w3 => e = .returned (.int .i64 n) ∧ Hid (Calls Try.prog 18 #[vb, .agg #[.slice (some ⟨gT, b, none⟩) (a - k - b) (cT - b), .int .i64 (a - f : Nat), .int .i64 n]] w3 fun e w4 => ∃ v', e = .returned v' ∧ Hid (EnR w W0 pb gT cT A T (a - k + n) (a - k + n) v' w4))))) := by
  obtain ⟨ms, nb, fb, nx, h⟩ := h
  have hh := hit_of h.ei.ba h12 hf hk hn
  obtain ⟨i1, i2, i3, i4, i5, i6, i7, i8⟩ := hh
  have hba := h.ei.ba
  have hbi := h.ei.hi
  have hhi := h.hi
  have hlo := h.lo
  have hFz : ∀ k, (k = pb ∨ k = nb ∨ k = fb) → k < W0 := fun k hk => by rcases hk with rfl | rfl | rfl; exact hhi.1; exact hhi.2.2.1; exact hhi.2.2.2
  show Calls _ _ _ _ _
  refine (find_any wr pb gT cT nb fb nx T h.pls a h.nx (by omega) (by omega)).mono ?_
  rintro e w1 ⟨q, rfl, hq, nb', fb', hL, hF, hnf⟩
  obtain rfl := hq f hf
  refine ⟨by rw [hf]; rfl, ?_⟩
  have hIn : ∀ {V}, Nw w1 V → In (some ⟨gT, 0, none⟩) cT T V := fun hV => ⟨hL.tl, hL.tc, by omega, fun _ => ⟨gT, 0, rfl, (hL.nw hV).txt⟩⟩
  show Calls _ _ _ _ _
  refine (alikeAhead_any w1 (some ⟨gT, 0, none⟩) cT T (hIn (Fr.refl _ _)) q a b i3 hba (by omega) h.al).mono ?_
  rintro e w2 ⟨rfl, hN2⟩
  refine ⟨by rw [hk], ?_⟩
  have hlt : (T.take (T.length - 5)).length = T.length - 5 := by simp
  show Calls _ _ _ _ _
  have hAl := alike_any w2 (some ⟨gT, 0, none⟩) cT (T.take (T.length - 5)) ⟨by rw [hlt]; have := hL.tl; omega, hL.tc, by omega, fun _ => ⟨gT, 0, rfl, (hL.nw hN2).txt.take _⟩⟩ (q - k) (a - k) (by omega) (by omega) (by omega)
  rw [hlt, ← hn] at hAl
  refine hAl.mono ?_
  rintro e w3 ⟨rfl, hN3⟩
  refine ⟨rfl, ?_⟩
  have hN13 : Nw w1 w3 := hN2.trans hN3
  have hL3 := hL.nw hN13
  have hpl : ((T.drop b).take (a - k - b)).length = a - k - b := by simp; omega
  have hM1 : Mine (fun k => k < W0) vb (ms.flatMap encS) w3 := (h.mine.kept hF (fun k hk => .inl (hFz k hk))).nw hN13
  have hsz3 : W0 ≤ w3.heap.size := Nat.le_trans h.sz (Nat.le_trans hF.size hN13.size)
  have hml := h.ei.len
  have hcan : canS ⟨(T.drop b).take (a - k - b), a - q, n⟩ := ⟨by show 1 ≤ a - q; omega, i4, by show 4 ≤ n; omega⟩
  have hput := put_any (fun k => k < W0) w3 (fun k hk => Nat.lt_of_lt_of_le hk hsz3) vb (ms.flatMap encS) hM1 (.slice (some ⟨gT, b, none⟩) (a - k - b) (cT - b)) ⟨(T.drop b).take (a - k - b), (a - q : Nat), n⟩ (.inr ⟨gT, by omega, b, cT - b, by rw [hpl], by rw [hpl]; have := hL.tl; omega, by have := hL.tc; omega, by
    have := (hL3.txt.drop b).take (a - k - b)
    rw [Nat.zero_add] at this; exact this⟩) (by show ((T.drop b).take (a - k - b)).length ≤ _; rw [hpl]; omega) (by show (n : Int) ≤ _; omega) (.inr ⟨by show (1 : Int) ≤ ((a - q : Nat) : Int); omega, by show ((a - q : Nat) : Int) ≤ 65535; omega, by show (4 : Int) ≤ (n : Int); omega⟩) (by omega)
  show Calls _ _ _ _ _
  refine hput.mono ?_
  rintro e w4 ⟨v', rfl, hM4, hF4⟩
  refine ⟨v', rfl, ?_⟩
  have hL4 := hL3.kept hF4 (fun h => h hhi.1) (fun h => h hhi.2.1) (fun h => h (by rcases hnf with ⟨rfl, rfl⟩ | ⟨rfl, rfl⟩ <;> omega)) (fun h => h (by rcases hnf with ⟨rfl, rfl⟩ | ⟨rfl, rfl⟩ <;> omega))
  have e1 : encP ⟨(T.drop b).take (a - k - b), (a - q : Nat), n⟩ = encS ⟨(T.drop b).take (a - k - b), a - q, n⟩ := encP_sq _ hcan
  refine ⟨ms ++ [⟨(T.drop b).take (a - k - b), a - q, n⟩], nb', fb', a, hL4, by omega, h.ei.hit (hit_of hba h12 hf hk hn), by omega, ?_, by rcases hnf with ⟨rfl, rfl⟩ | ⟨rfl, rfl⟩ <;> omega, by rcases hnf with ⟨rfl, rfl⟩ | ⟨rfl, rfl⟩ <;> omega, ?_, fun r hr => h.ent r (.hit h12 hf hk hn hr), Nat.le_trans hsz3 hF4.size, h.wz⟩
  · rw [e1] at hM4
    simpa [List.flatMap_append] using hM4
  · refine Fr.then ?_ hF4 (fun k hk => .inr (by have := h.wz; omega))
    exact (Fr.then h.nw hF (fun k hk => .inr (by rcases hk with rfl | rfl | rfl <;> omega))).trans hN13
/-- The last plain bytes. -/
theorem EnR.last {w : World} {W0 pb gT cT A : Nat} {T : List By} {b a : Nat} {vb : Value} {wr : World} (h : EnR w W0 pb gT cT A T b a vb wr) (hT : T.length ≤ 10000000) (h12 : ¬ a + 12 ≤ T.length) (ad : Nat) (had : ad = b ∨ b = cT) :
    Hid (Calls Try.prog 18 #[vb, .agg #[.slice (some ⟨gT, ad, none⟩) (T.length - b) (cT - b), .int .i64 0, .int .i64 0]] wr fun e w4 => ∃ a' c' ms e', e = .returned (.slice a' (mk ms (T.drop e')).length c') ∧ EncTo T A A [] (ms, e') ∧ EI T A e' a ms ∧ Mine (fun k => k < w.heap.size) (.slice a' (mk ms (T.drop e')).length c') (mk ms (T.drop e')) w4 ∧ Nw w w4) := by
  obtain ⟨ms, nb, fb, nx, h⟩ := h
  have hhi := h.hi
  have hbi := h.ei.hi
  have htl := h.pls.tl
  have htc := h.pls.tc
  have hml := h.ei.len
  have hput := put_any (fun k => k < W0) wr (fun k hk => Nat.lt_of_lt_of_le hk h.sz) vb (ms.flatMap encS) h.mine (.slice (some ⟨gT, ad, none⟩) (T.length - b) (cT - b)) ⟨T.drop b, 0, 0⟩ (.inr ⟨gT, by omega, ad, cT - b, by simp, by simp; omega, by omega, by
    rcases had with rfl | had
    · have := h.pls.txt.drop ad
      rw [Nat.zero_add] at this; exact this
    · show Rd gT ad (T.drop b) wr
      rw [List.drop_of_length_le (by omega)]; exact Rd.nil _ _ _⟩) (by show (T.drop b).length ≤ _; simp; omega) (by show (0 : Int) ≤ _; omega) (.inl ⟨rfl, rfl⟩) (by omega)
  show Calls _ _ _ _ _
  refine hput.mono ?_
  rintro e w4 ⟨v', rfl, hM4, hF4⟩
  have e1 : ms.flatMap encS ++ encP ⟨T.drop b, 0, 0⟩ = mk ms (T.drop b) := by unfold mk encP; rw [if_pos rfl]
  rw [e1] at hM4
  obtain ⟨a', c', rfl, _, _⟩ := hM4.sl.form
  exact ⟨a', c', ms, b, rfl, h.ent _ (.done h12), h.ei, hM4.more (fun g hg => .inl (Nat.lt_of_lt_of_le hg h.wz)), Fr.then h.nw hF4 (fun k hk => .inr (by have := h.wz; omega))⟩
end Go.Proofs.Ytpnacppmdlnjlab
