import Derived.Test.YtdeefemeiggolaaQc
namespace Go.Proofs.Ytdeefemeiggolaa
open Go.RowKit
set_option linter.unusedVariables false

/-- What a Write leaves. -/
def Wrote {α : Type} (T d tot size : Nat) (rest : List By) (enc : α → List Value) (f : α → List By → α) (x : α) (b : List By) (w w' : World) : Prop :=
  ∃ rest' x', DB T d ((tot + b.length) % 18446744073709551616) rest' (enc x') w' ∧ rest'.length = 32 ∧ Fr (fun k => k = d) w w' ∧ Res size f x (rest.take (tot % size) ++ b) x' rest'
theorem Mixes.later {α : Type} {T d size : Nat} {enc : α → List Value} {f : α → List By → α} {c : Nat} {cap : Array Value} {w w' : World} (h : Mixes T d size enc f c cap w) (hf : Fr (fun k => k = d) w w') : Mixes T d size enc f c cap w' :=
  fun W tot rest x g u p hW => h W tot rest x g u p (hf.trans hW)
set_option maxHeartbeats 40000000 in
set_option maxRecDepth 100000 in
theorem stripes0 {α : Type} (T d tot size : Nat) (hs : 0 < size) (hs2 : size ≤ 32) (rest : List By) (hr : rest.length = 32) (enc : α → List Value) (f : α → List By → α) (x : α) (c : Nat) (eg : ∀ args w, (callFunc c args).run Try.prog w = .ok (.enter c args) w) (cap : Array Value) (w : World)
    (hm : Mixes T d size enc f c cap w) (a : Option Addr) (b : List By) (cp : Nat) (hv : Sl (fun k => k = d) (.slice a b.length cp) b w) (hbl : b.length < 9223372036854775808) (ht : tot < 18446744073709551616) (h : DB T d tot rest (enc x) w) (hz : tot % size = 0) :
    Calls Try.prog 82 #[.pointer (some ⟨d, 0, none⟩), .slice a b.length cp, .int .i64 size, .func (.func c) #[] cap] w fun e w' => (∃ r, e = .returned r) ∧ Wrote T d tot size rest enc f x b w w' := by
  have H44 : Hid (Calls Try.prog 88 #[.pointer (some ⟨d, 0, none⟩), .int .i64 size] w fun e w' => e = .returned (.int .i64 0) ∧ Nw w w') := by
    have := held_any T d tot rest (enc x) size hs (by omega) ht w h
    rw [hz] at this; exact this
  have HD : Hid (∀ W, Nw w W → DB T d tot rest (enc x) W) := fun W hW => h.nw hW
  have HT : Hid (∀ W, Nw w W → W.cell? ⟨d, 0, none⟩ = some (.int .u64 tot) ∧ W.frozen? ⟨d, 0, none⟩ = false) := fun W hW => ⟨(h.nw hW).tot, (h.nw hW).frozen _⟩
  have HL : Hid (∀ W W', Nw w W → Nw (W.setCell ⟨d, 0, none⟩ (.int .u64 (IntKind.u64.wrap ((tot : Int) + (b.length : Int))))) W' → Calls Try.prog 87 #[.slice a b.length cp, .int .i64 size, .func (.func c) #[] cap] W' fun e w' => ∃ a n c, e = .returned (.slice a n c) ∧ ∃ W2 k, (∀ ty c1, (Builtin.copy_ #[22, 22] ty #[.slice (some ⟨d, 1, none⟩) size c1, .slice a n c]).run Try.prog w' = .ok k W2) ∧ Wrote T d tot size rest enc f x b w W2) := by
    intro W W' hW hW'
    have hF : Fr (fun k => k = d) w (W.setCell ⟨d, 0, none⟩ (.int .u64 (IntKind.u64.wrap ((tot : Int) + (b.length : Int))))) := (hW.any).setCell _ _ (.inl rfl)
    have hF' := hF.trans hW'.any
    have hD := ((h.nw hW).setTot ((tot + b.length) % 18446744073709551616) (IntKind.u64.wrap ((tot : Int) + (b.length : Int))) (by rw [IntKind.wrap_u64]; omega)).nw hW'
    refine (lays_any T d _ size hs hs2 rest hr enc f x c eg cap W' (hm.later hF') _ b (hv.kept hF' (fun _ h => h)) hD).mono ?_
    rintro e w' ⟨a, n, c, rfl, W2, k, h1, h2, h3⟩
    refine ⟨a, n, c, rfl, W2, k, h1, _, _, h2, ?_, hF'.trans h3, ?_⟩
    · rw [putr_length _ _ _ (by simp; omega)]; exact hr
    · rw [hz]; exact res_none size f x rest b hr hs2 hs
  have hx1 : ¬ (32 = size ∧ False) := by simp
  have hsz : (size : Int) ≤ 32 := by omega
  clear hm hv h hr ht hz
  generalize b.length = n at *
  go_enter Try.func82, Try.ntmps82
  go_wp2_with fail
  with_reducible refine H44.out.mono ?_
  rintro e w1 ⟨rfl, hN1⟩
  obtain ⟨t1, t2⟩ := HT.out w1 hN1
  go_wp2_with fail
  clear t1 t2
  go_region_held3 (fun w' => True) (exact trivial)
    (first
      | (go_at_call 87; with_reducible refine (HL.out w1 _ hN1 ?_).mono ?_; (first | exact (Fr.refl _ _).drew | exact Fr.refl _ _); rintro e w2 ⟨a2, n2, c2, rfl, W2, k2, hcp, hW⟩))
  go_wp2
  go_end0
  exact ⟨⟨_, rfl⟩, hW⟩
set_option maxHeartbeats 40000000 in
set_option maxRecDepth 100000 in
theorem stripesB {α : Type} (T d tot size : Nat) (hs : 0 < size) (hs2 : size ≤ 32) (rest : List By) (hr : rest.length = 32) (enc : α → List Value) (f : α → List By → α) (x : α) (c : Nat) (cap : Array Value) (w : World)
    (a : Option Addr) (b : List By) (cp : Nat) (hv : Sl (fun k => k = d) (.slice a b.length cp) b w) (hbl : b.length < 9223372036854775808) (ht : tot < 18446744073709551616) (h : DB T d tot rest (enc x) w) (q : Nat) (hq : tot % size = q) (hq0 : 0 < q) (hqs : q + b.length < size) :
    Calls Try.prog 82 #[.pointer (some ⟨d, 0, none⟩), .slice a b.length cp, .int .i64 size, .func (.func c) #[] cap] w fun e w' => (∃ r, e = .returned r) ∧ Wrote T d tot size rest enc f x b w w' := by
  have H44 : Hid (Calls Try.prog 88 #[.pointer (some ⟨d, 0, none⟩), .int .i64 size] w fun e w' => e = .returned (.int .i64 q) ∧ Nw w w') := by
    have := held_any T d tot rest (enc x) size hs (by omega) ht w h
    rw [hq] at this; exact this
  have HT : Hid (∀ W, Nw w W → W.cell? ⟨d, 0, none⟩ = some (.int .u64 tot) ∧ W.frozen? ⟨d, 0, none⟩ = false) := fun W hW => ⟨(h.nw hW).tot, (h.nw hW).frozen _⟩
  have HC : Hid (∀ W, Nw w W → ∃ W2, (∀ ty c1, (Builtin.copy_ #[22, 22] ty #[.slice (some ⟨d, 1 + q, none⟩) (size - q) c1, .slice a b.length cp]).run Try.prog (W.setCell ⟨d, 0, none⟩ (.int .u64 (IntKind.u64.wrap ((tot : Int) + (b.length : Int))))) = .ok (.int .i64 b.length) W2) ∧ Wrote T d tot size rest enc f x b w W2) := by
    intro W hW
    have hF : Fr (fun k => k = d) w (W.setCell ⟨d, 0, none⟩ (.int .u64 (IntKind.u64.wrap ((tot : Int) + (b.length : Int))))) := (hW.any).setCell _ _ (.inl rfl)
    have hD := ((h.nw hW).setTot ((tot + b.length) % 18446744073709551616) (IntKind.u64.wrap ((tot : Int) + (b.length : Int))) (by rw [IntKind.wrap_u64]; omega))
    have hres := res_few size f x rest q b hr hs2 hqs
    rcases hv.kept hF (fun _ h => h) with ⟨a', h1, h2⟩ | ⟨g, hg, o, c', h1, h2, h3, h4⟩
    · subst h2
      injection h1 with h1 _ h1'
      subst h1 h1'
      refine ⟨_, fun ty c1 => copy_none _ ty ⟨d, 1 + q, none⟩ (size - q) c1 a, rest, x, hD, hr, hF, ?_⟩
      rw [hq]
      have e : putr rest q [] = rest := by simp [putr]
      rw [e] at hres; exact hres
    · injection h1 with h1 _ h1'
      subst h1 h1'
      obtain ⟨W2, k1, k2, k3⟩ := copyd T d _ rest _ _ hD hr g o 0 b h4 q (size - q) (by omega)
      rw [List.take_of_length_le (by omega)] at k2
      refine ⟨W2, fun ty c1 => ?_, _, _, k2, by rw [putr_length _ _ _ (by omega)]; exact hr, hF.trans k3, by rw [hq]; exact hres⟩
      have := k1 ty c1 cp
      rw [Nat.min_eq_left (by omega)] at this
      exact this
  have hz1 : (0 : Int) < (q : Int) := by omega
  have hz2 : (q : Int) ≤ (size : Int) := by omega
  have hz3 : (size : Int) ≤ 32 := by omega
  have hz4 : ¬ 32 = q := by omega
  have hz5 : (q : Int) + (b.length : Int) < (size : Int) := by omega
  clear hv h hr ht hq
  generalize b.length = n at *
  go_enter Try.func82, Try.ntmps82
  go_wp2_with fail
  with_reducible refine H44.out.mono ?_
  rintro e w1 ⟨rfl, hN1⟩
  obtain ⟨t1, t2⟩ := HT.out w1 hN1
  obtain ⟨W2, hcp, hW⟩ := HC.out w1 hN1
  have hW : Hid _ := hW
  go_wp2
  (first | go_end0 | refine bodyPost_ret (results_none rfl _ _ _) rfl ?_)
  exact ⟨⟨_, rfl⟩, hW.out⟩
set_option maxHeartbeats 40000000 in
set_option maxRecDepth 100000 in
theorem stripesC {α : Type} (T d tot size : Nat) (hs : 0 < size) (hs2 : size ≤ 32) (rest : List By) (hr : rest.length = 32) (enc : α → List Value) (f : α → List By → α) (x : α) (c : Nat) (eg : ∀ args w, (callFunc c args).run Try.prog w = .ok (.enter c args) w) (cap : Array Value) (w : World)
    (hmx : Mixes T d size enc f c cap w) (g o : Nat) (b : List By) (cp : Nat) (hg : g ≠ d) (hrd : Rd g o b w) (hcp1 : b.length ≤ cp) (hcp2 : cp < 9223372036854775808) (ht : tot < 18446744073709551616) (h : DB T d tot rest (enc x) w) (q m : Nat) (hq : tot % size = q) (hq0 : 0 < q) (hm : q + m = size) (hm0 : 0 < m) (hqs : m ≤ b.length) :
    Calls Try.prog 82 #[.pointer (some ⟨d, 0, none⟩), .slice (some ⟨g, o, none⟩) b.length cp, .int .i64 size, .func (.func c) #[] cap] w fun e w' => (∃ r, e = .returned r) ∧ Wrote T d tot size rest enc f x b w w' := by
  have H44 : Hid (Calls Try.prog 88 #[.pointer (some ⟨d, 0, none⟩), .int .i64 size] w fun e w' => e = .returned (.int .i64 q) ∧ Nw w w') := by
    have := held_any T d tot rest (enc x) size hs (by omega) ht w h
    rw [hq] at this; exact this
  have HT : Hid (∀ W, Nw w W → W.cell? ⟨d, 0, none⟩ = some (.int .u64 tot) ∧ W.frozen? ⟨d, 0, none⟩ = false) := fun W hW => ⟨(h.nw hW).tot, (h.nw hW).frozen _⟩
  have HC : Hid (∀ W, Nw w W → ∃ W2, (∀ ty c1, (Builtin.copy_ #[22, 22] ty #[.slice (some ⟨d, 1 + q, none⟩) (size - q) c1, .slice (some ⟨g, o, none⟩) b.length cp]).run Try.prog (W.setCell ⟨d, 0, none⟩ (.int .u64 (IntKind.u64.wrap ((tot : Int) + (b.length : Int))))) = .ok (.int .i64 m) W2) ∧
      Hid (Calls Try.prog c (#[.slice (some ⟨d, 1, none⟩) size 32] ++ cap) W2 fun e w3 => (∃ r, e = .returned r) ∧ Hid (∀ o' n' c' W, Nw w3 W → n' = b.length - m → c' = cp - m → (n' = 0 ∨ o' = o + m) → Calls Try.prog 87 #[.slice (some ⟨g, o', none⟩) n' c', .int .i64 size, .func (.func c) #[] cap] W fun e w' => ∃ a n c, e = .returned (.slice a n c) ∧ ∃ W2 k, (∀ ty c1, (Builtin.copy_ #[22, 22] ty #[.slice (some ⟨d, 1, none⟩) size c1, .slice a n c]).run Try.prog w' = .ok k W2) ∧ Wrote T d tot size rest enc f x b w W2))) := by
    intro W hW
    have hF : Fr (fun k => k = d) w (W.setCell ⟨d, 0, none⟩ (.int .u64 (IntKind.u64.wrap ((tot : Int) + (b.length : Int))))) := (hW.any).setCell _ _ (.inl rfl)
    have hD := ((h.nw hW).setTot ((tot + b.length) % 18446744073709551616) (IntKind.u64.wrap ((tot : Int) + (b.length : Int))) (by rw [IntKind.wrap_u64]; omega))
    obtain ⟨W2, k1, k2, k3⟩ := copyd T d _ rest _ _ hD hr g o 0 b (hrd.kept hF hg) q (size - q) (by omega)
    have hF2 := hF.trans k3
    have hsq : size - q = m := by omega
    rw [hsq] at k1 k2
    rw [hsq]
    have hr2 : (putr rest q (b.take m)).length = 32 := by rw [putr_length _ _ _ (by simp; omega)]; exact hr
    have hpt : (putr rest q (b.take m)).take size = rest.take q ++ b.take m := by
      have := putr_take rest q (b.take m) (by simp; omega)
      rw [show (b.take m).length = m by simp; omega, hm] at this
      exact this
    have hpl : (rest.take q ++ b.take m).length = size := by simp; omega
    refine ⟨W2, fun ty c1 => ?_, ?_⟩
    · have := k1 ty c1 cp
      rw [Nat.min_eq_right (by omega)] at this
      exact this
    · show Calls _ _ _ _ _
      refine (hmx W2 _ _ x d _ (rest.take q ++ b.take m) hF2 k2 hr2 hpl ⟨1, 32, by rw [hpl], by omega, by omega, ?_, .inr (by omega)⟩).mono ?_
      · rw [← hpt]; exact k2.rd.take _
      · rintro e w3 ⟨h1, h2, h3⟩
        refine ⟨h1, fun o' n' c' W hW hn' hc' ho => ?_⟩
        subst hn' hc'
        have hF3 := (hF2.trans h3).trans hW.any
        refine (lays_any T d _ size hs hs2 _ hr2 enc f _ c eg cap W (hmx.later hF3) _ (b.drop m) (.inr ⟨g, hg, o', cp - m, by simp, by simp; omega, by omega, ?_⟩) (h2.nw hW)).mono ?_
        · rcases ho with ho | ho
          · have : b.drop m = [] := by simp; omega
            rw [this]; exact Rd.nil _ _ _
          · rw [ho]; exact (hrd.kept hF3 hg).drop m
        · rintro e w' ⟨a, n, c, rfl, W2, k, h1, h2, h3⟩
          refine ⟨a, n, c, rfl, W2, k, h1, _, _, h2, ?_, hF3.trans h3, ?_⟩
          · rw [putr_length _ _ _ (by simp; omega)]; exact hr2
          · rw [hq]; exact res_more size f x rest _ q m b hr hr2 hs2 hs hm hqs
  have hz1 : (0 : Int) < (q : Int) := by omega
  have hz2 : (q : Int) ≤ (size : Int) := by omega
  have hz3 : (size : Int) ≤ 32 := by omega
  have hz4 : ¬ 32 = q := by omega
  have hz5 : (q : Int) + (m : Int) = (size : Int) := by omega
  have hz6 : (m : Int) ≤ (b.length : Int) := by omega
  clear hrd h hr ht hq hmx hm
  generalize b.length = n at *
  go_enter Try.func82, Try.ntmps82
  go_wp2_with fail
  with_reducible refine H44.out.mono ?_
  rintro e w1 ⟨rfl, hN1⟩
  obtain ⟨t1, t2⟩ := HT.out w1 hN1
  obtain ⟨W2, hcp, hW⟩ := HC.out w1 hN1
  by_cases hcm : cp = m
  · subst hcm
    obtain rfl : n = cp := by omega
    go_wp2_with (go_at_fn c; refine hW.out.mono ?_; rintro e w3 ⟨⟨r, rfl⟩, H3⟩)
    clear hcp t1 t2
    go_region_held3 (fun w' => True) (exact trivial)
      (first
        | (go_at_call 87; with_reducible refine (H3.out _ _ _ _ ?_ ?_ ?_ ?_).mono ?_; (first | exact (Fr.refl _ _).drew | exact Fr.refl _ _); omega; omega; omega; rintro e w4 ⟨a2, n2, c2, rfl, W4, k2, hcp, hW4⟩))
    go_wp2
    go_end0
    exact ⟨⟨_, rfl⟩, hW4⟩
  · have hcm' : ¬ m = cp := fun h => hcm h.symm
    go_wp2_with (go_at_fn c; refine hW.out.mono ?_; rintro e w3 ⟨⟨r, rfl⟩, H3⟩)
    clear hcp t1 t2
    go_region_held3 (fun w' => True) (exact trivial)
      (first
        | (go_at_call 87; with_reducible refine (H3.out _ _ _ _ ?_ ?_ ?_ ?_).mono ?_; (first | exact (Fr.refl _ _).drew | exact Fr.refl _ _); omega; omega; omega; rintro e w4 ⟨a2, n2, c2, rfl, W4, k2, hcp, hW4⟩))
    go_wp2
    go_end0
    exact ⟨⟨_, rfl⟩, hW4⟩
end Go.Proofs.Ytdeefemeiggolaa

namespace Go.Proofs.Ytdeefemeiggolaa
open Go.RowKit
set_option linter.unusedVariables false

end Go.Proofs.Ytdeefemeiggolaa

namespace Go.Proofs.Ytdeefemeiggolaa
open Go.RowKit
set_option linter.unusedVariables false
theorem box_cell {w : World} {b : Nat} {v : Value} {t : TypeId} (h : w.heap[b]? = some (.cells #[v] t)) : w.cell? ⟨b, 0, none⟩ = some v ∧ w.frozen? ⟨b, 0, none⟩ = false := by
  constructor <;> simp [World.cell?, World.frozen?, h]
theorem stripes_any {α : Type} (T d tot size : Nat) (hs : 0 < size) (hs2 : size ≤ 32) (rest : List By) (hr : rest.length = 32) (enc : α → List Value) (f : α → List By → α) (x : α) (c : Nat) (eg : ∀ args w, (callFunc c args).run Try.prog w = .ok (.enter c args) w) (cap : Array Value) (w : World)
    (hm : Mixes T d size enc f c cap w) (v : Value) (b : List By) (hv : Sl (fun k => k = d) v b w) (ht : tot < 18446744073709551616) (h : DB T d tot rest (enc x) w) :
    Calls Try.prog 82 #[.pointer (some ⟨d, 0, none⟩), v, .int .i64 size, .func (.func c) #[] cap] w fun e w' => (∃ r, e = .returned r) ∧ Wrote T d tot size rest enc f x b w w' := by
  have hform : ∃ a cp, v = .slice a b.length cp ∧ b.length < 9223372036854775808 := by
    rcases hv with ⟨a, h1, h2⟩ | ⟨g, hg, o, c', h1, h2, h3, h4⟩
    · exact ⟨a, 0, by rw [h1, h2]; rfl, by rw [h2]; simp⟩
    · exact ⟨_, _, h1, by omega⟩
  obtain ⟨a, cp, rfl, hbl⟩ := hform
  have hlt := Nat.mod_lt tot hs
  by_cases hz : tot % size = 0
  · exact stripes0 T d tot size hs hs2 rest hr enc f x c eg cap w hm a b cp hv hbl ht h hz
  · by_cases hq : tot % size + b.length < size
    · exact stripesB T d tot size hs hs2 rest hr enc f x c cap w a b cp hv hbl ht h (tot % size) rfl (by omega) hq
    · rcases hv with ⟨a', h1, h2⟩ | ⟨g, hg, o, c', h1, h2, h3, h4⟩
      · rw [h2] at hq; simp at hq; omega
      · injection h1 with h1 _ h1'
        subst h1 h1'
        exact stripesC T d tot size hs hs2 rest hr enc f x c eg cap w hm g o b cp hg h4 h2 h3 ht h (tot % size) (size - tot % size) rfl (by omega) (by omega) (by omega) (by omega)
theorem res_took {α : Type} (size : Nat) (hs : 0 < size) (f : α → List By → α) (ini x' : α) (l b rest' : List By) (hR : Res size f (foldc size f (l.length / size) ini l) (l.drop (l.length / size * size) ++ b) x' rest') :
    x' = foldc size f ((l ++ b).length / size) ini (l ++ b) ∧ rest'.take ((l ++ b).length % size) = (l ++ b).drop ((l ++ b).length / size * size) := by
  obtain ⟨h1, h2⟩ := hR
  have hms := mod_split l.length size
  generalize hq : l.length / size = q at *
  have htl : (l.take (q * size)).length = q * size := by simp; omega
  have he : l ++ b = l.take (q * size) ++ (l.drop (q * size) ++ b) := by rw [← List.append_assoc, List.take_append_drop]
  have hll : (l ++ b).length = (l.drop (q * size) ++ b).length + q * size := by rw [he, List.length_append, htl]; omega
  have hd : (l ++ b).length / size = (l.drop (q * size) ++ b).length / size + q := by rw [hll, Nat.add_mul_div_right _ _ hs]
  have hmd : (l ++ b).length % size = (l.drop (q * size) ++ b).length % size := by rw [hll, Nat.add_mul_mod_self_right]
  have hf : foldc size f q ini l = foldc size f q ini (l.take (q * size)) := by
    have := foldc_pre size f q ini (l.take (q * size)) (l.drop (q * size)) (by omega)
    rw [List.take_append_drop] at this; exact this
  rw [hd, hmd]
  constructor
  · rw [h1, hf, he, Nat.add_comm, foldc_app size f q _ ini _ _ htl]
  · rw [h2, he, Nat.add_mul, Nat.add_comm, ← List.drop_drop]
    congr 1
    exact (List.drop_left' htl).symm

/-- A digest that took l, with the seed s. -/
def Took32 (d : Nat) (s : BitVec 32) (l : List By) (w : World) : Prop := ∃ rest, rest.length = 32 ∧ DB 138 d (l.length % 18446744073709551616) rest (ext32 s (str32 s l)) w ∧ rest.take (l.length % 16) = l.drop (l.length / 16 * 16)
theorem Took32.kept {d : Nat} {s : BitVec 32} {l : List By} {w w' : World} {X : Nat → Prop} (h : Took32 d s l w) (f : Fr X w w') (hx : ¬ X d) : Took32 d s l w' := by
  obtain ⟨rest, h1, h2, h3⟩ := h
  exact ⟨rest, h1, h2.kept f hx, h3⟩
theorem Took32.nw {d : Nat} {s : BitVec 32} {l : List By} {w w' : World} (h : Took32 d s l w) (f : Nw w w') : Took32 d s l w' := h.kept f (fun h => h)
theorem Took32.lt {d : Nat} {s : BitVec 32} {l : List By} {w : World} (h : Took32 d s l w) : d < w.heap.size := by
  obtain ⟨rest, h1, h2, h3⟩ := h
  exact h2.lt
theorem Took32.new {d : Nat} {s : BitVec 32} {w : World} (h : DB 138 d 0 (List.replicate 32 0#8) (ext32 s (ini32 s)) w) : Took32 d s [] w := ⟨_, by simp, h, by simp⟩
theorem eg36 : ∀ args w, (callFunc 83 args).run Try.prog w = .ok (.enter 83 args) w := enters_of Try.func83 (by kernel_rfl) rfl
set_option maxHeartbeats 4000000 in
theorem write32_any (d : Nat) (s : BitVec 32) (l : List By) (v : Value) (b : List By) (w : World) (h : Took32 d s l w) (hv : Sl (fun k => k = d) v b w) :
    Calls Try.prog 69 #[.pointer (some ⟨d, 0, none⟩), v] w fun e w' => (∃ r, e = .returned r) ∧ Took32 d s (l ++ b) w' ∧ Fr (fun k => k = d) w w' := by
  obtain ⟨rest, h1, h2, h3⟩ := h
  have hd := h2.lt
  have hN : Nw w (w.alloc (.cells #[.pointer (some ⟨d, 0, none⟩)] 116)) := (Fr.refl _ _).alloc _
  have hbx : (w.alloc (.cells #[.pointer (some ⟨d, 0, none⟩)] 116)).cell? ⟨w.heap.size, 0, none⟩ = some (.pointer (some ⟨d, 0, none⟩)) := by
    have e : (w.alloc (.cells #[.pointer (some ⟨d, 0, none⟩)] 116)).heap[w.heap.size]? = some (.cells #[.pointer (some ⟨d, 0, none⟩)] 116) := by
      show (w.heap.push _)[w.heap.size]? = _
      simp
    exact (box_cell e).1
  have hne : w.heap.size ≠ d := by omega
  have HM : Mixes 138 d 16 (ext32 s) mix32 83 #[.pointer (some ⟨w.heap.size, 0, none⟩)] (w.alloc (.cells #[.pointer (some ⟨d, 0, none⟩)] 116)) := by
    intro W tot rest x g u p hW hD hr hp hu
    exact mix32_any w.heap.size d tot rest hr s x g u p hp W (hW.cellv hbx hne) hne hD hu
  have HS : Hid (Calls Try.prog 82 #[.pointer (some ⟨d, 0, none⟩), v, .int .i64 16, .func (.func 83) #[] #[.pointer (some ⟨w.heap.size, 0, none⟩)]] (w.alloc (.cells #[.pointer (some ⟨d, 0, none⟩)] 116)) fun e w' => (∃ r, e = .returned r) ∧ Took32 d s (l ++ b) w' ∧ Fr (fun k => k = d) w w') := by
    refine (stripes_any 138 d _ 16 (by decide) (by decide) rest h1 (ext32 s) mix32 (str32 s l) 83 eg36 _ _ HM v b (hv.nw hN) (Nat.mod_lt _ (by decide)) (h2.nw hN)).mono ?_
    rintro e w' ⟨hr, rest', x', k1, k2, k3, k4⟩
    refine ⟨hr, ?_, hN.any.trans k3⟩
    rw [Nat.mod_mod_of_dvd _ (by decide : 16 ∣ 18446744073709551616), h3] at k4
    obtain ⟨e1, e2⟩ := res_took 16 (by decide) mix32 (ini32 s) x' l b rest' k4
    refine ⟨rest', k2, ?_, e2⟩
    show DB 138 d ((l ++ b).length % 18446744073709551616) rest' (ext32 s (foldc 16 mix32 ((l ++ b).length / 16) (ini32 s) (l ++ b))) w'
    rw [← e1, List.length_append]
    rw [Nat.mod_add_mod] at k1
    exact k1
  clear h2 hv HM hbx
  go_enter Try.func69, Try.ntmps69
  have hmf : ∀ (fn : Fn) (first cap : Array Value) (w : World), (Instr.makeFunc fn first cap).run Try.prog w = .ok (.func fn first cap) w := fun _ _ _ _ => rfl
  go_wp2_with fail
  with_reducible refine HS.out.mono ?_
  rintro e w1 ⟨⟨r, rfl⟩, hT, hF⟩
  go_wp2
  go_end0
  exact ⟨⟨_, rfl⟩, hT, hF⟩

end Go.Proofs.Ytdeefemeiggolaa
