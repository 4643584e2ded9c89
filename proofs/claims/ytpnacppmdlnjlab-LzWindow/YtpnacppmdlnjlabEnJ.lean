import Derived.Test.YtpnacppmdlnjlabEnI
import Derived.Test.YtpnacppmdlnjlabLzV
import Derived.Lib.MinMax
namespace Go.Proofs.Ytpnacppmdlnjlab
open Go.RowKit
set_option linter.unusedVariables false
/-- What Encode's bytes are: b the block of plain bytes behind those ahead. -/
def EncOf (p ahead b : List By) : Prop := ∃ ms e', b = mk ms ((win ahead ++ p).drop e') ∧ EncTo (win ahead ++ p) (win ahead).length (win ahead).length [] (ms, e') ∧ ∃ a, EI (win ahead ++ p) (win ahead).length e' a ms
theorem EncOf.uniq {p ahead b b' : List By} (h : EncOf p ahead b) (h' : EncOf p ahead b') : b = b' := by
  obtain ⟨ms, e, rfl, h2, _⟩ := h
  obtain ⟨ms', e', rfl, h2', _⟩ := h'
  have := h2.uniq h2'
  injection this with h3 h4
  rw [h3, h4]
theorem EncOf.bound {p ahead b : List By} (h : EncOf p ahead b) : b.length ≤ p.length + p.length / 255 + 16 := by
  obtain ⟨ms, e, rfl, _, a, hi⟩ := h
  have := hi.made.1
  have hl : (win ahead ++ p).length - (win ahead).length = p.length := by simp
  rw [hl] at this
  exact this
theorem EncOf.dec {p ahead b : List By} (h : EncOf p ahead b) (hp : p.length ≤ 4194304) : dec b ahead p.length = (p, 0, 0) := by
  obtain ⟨ms, e, rfl, _, a, hi⟩ := h
  have := hi.made.2
  have hl : (win ahead ++ p).length - (win ahead).length = p.length := by simp
  rw [hl, List.take_left, List.drop_left] at this
  rw [dec_win]
  unfold Go.Proofs.Ytpnacppmdlnjlab.dec
  rw [if_neg (by omega), Int.toNat_natCast, this]
theorem EncOf.parse {p ahead b : List By} (h : EncOf p ahead b) : ∃ ms q, b = mk ms q ∧ parse b = (ms ++ [⟨q, 0, 0⟩], 0, 0) ∧ ∀ s, ms.getLast? = some s → 5 ≤ q.length ∧ 12 ≤ s.n + q.length := by
  obtain ⟨ms, e, rfl, _, a, hi⟩ := h
  refine ⟨ms, (win ahead ++ p).drop e, rfl, ?_, ?_⟩
  · obtain ⟨s, h1, h2⟩ := parse_mk (mk ms ((win ahead ++ p).drop e)).length ms ((win ahead ++ p).drop e) hi.can [] ⟨[], 0, 0⟩ 0
    unfold Go.Proofs.Ytpnacppmdlnjlab.parse
    rw [h1]
    simp only
    rw [h2]
    simp
  · intro s hs
    have := hi.lst s hs
    rw [List.length_drop]
    exact this
/-- What Encode answers. -/
def Encod (p ahead : List By) (w : World) (e : Ending) (w' : World) : Prop :=
  ∃ a' c' b, e = .returned (.tuple #[.slice a' b.length c', .int .i64 0]) ∧ EncOf p ahead b ∧ Mine (fun k => k < w.heap.size) (.slice a' b.length c') b w' ∧ Nw w w'
theorem encode_of (w : World) (vp va : Value) (p ahead : List By) (hp : Old w vp p) (ha : Old w va (win ahead)) (hpl : p.length ≤ 4194304) :
    Calls Try.prog 10 #[vp, va] w fun e w' => ∃ a' c' b, e = .returned (.slice a' b.length c') ∧ EncOf p ahead b ∧ Mine (fun k => k < w.heap.size) (.slice a' b.length c') b w' ∧ Nw w w' := by
  refine (encode_any w vp va p (win ahead) hp ha hpl (by have := win_length ahead; omega)).mono ?_
  rintro e w' ⟨a', c', ms, e', rfl, h1, h2, h3, h4⟩
  exact ⟨a', c', _, rfl, ⟨ms, e', rfl, h1, h2⟩, h3, h4⟩
set_option maxHeartbeats 8000000 in
set_option maxRecDepth 100000 in
theorem Encode_any (w : World) (vp va : Value) (p ahead : List By) (hp : Old w vp p) (ha : Old w va ahead) (hpl : p.length ≤ 4194304) (hal : ahead.length ≤ 200000000000000) :
    Calls Try.prog 6 #[vp, va] w (Encod p ahead w) := by
  obtain ⟨P, hP⟩ : ∃ P, P = Encod p ahead w := ⟨_, rfl⟩
  rw [← hP]
  have HP : Hid (P = Encod p ahead w) := hP
  clear hP
  have key : ∀ x, Old w x (win ahead) → Hid (Calls Try.prog 10 #[vp, x] w fun e w' => ∃ a' l' c', e = .returned (.slice a' l' c') ∧ Hid (P (.returned (.tuple #[.slice a' l' c', .int .i64 0])) w')) := fun x hx => by
    show Calls _ _ _ _ _
    refine (encode_of w vp x p ahead hp hx hpl).mono ?_
    rintro e w' ⟨a', c', b, rfl, h1, h2, h3⟩
    refine ⟨a', _, c', rfl, ?_⟩
    show P _ _
    rw [HP.out]
    exact ⟨a', c', b, rfl, h1, h2, h3⟩
  obtain ⟨pa, pc, rfl, _, _⟩ := hp.form
  have hz0 : ¬ (4194304 : Int) < (p.length : Int) := by omega
  by_cases hbig : 65535 < ahead.length
  · obtain ⟨a, c, rfl, hc, hc2, hao⟩ : ∃ a c, va = .slice a ahead.length c ∧ ahead.length ≤ c ∧ c < 9223372036854775808 ∧ (ahead ≠ [] → ∃ g o, a = some ⟨g, o, none⟩ ∧ g < w.heap.size ∧ Rd g o ahead w) := by
      rcases ha with ⟨a, rfl, rfl⟩ | ⟨g, hg, o, c, rfl, h1, h2, h3⟩
      · simp at hbig
      · exact ⟨_, c, rfl, h1, h2, fun _ => ⟨g, o, rfl, by omega, h3⟩⟩
    obtain ⟨g, o, rfl, hg, hrd⟩ := hao (by intro e; rw [e] at hbig; simp at hbig)
    have hwl := win_length ahead
    have HC := key (.slice (some ⟨g, o + (ahead.length - 65535), none⟩) 65535 (c - (ahead.length - 65535))) (.inr ⟨g, by omega, _, _, by rw [hwl, Nat.min_eq_right (by omega)], by omega, by omega, hrd.drop _⟩)
    clear key HP ha hp hao hrd hwl
    generalize ahead.length = al at *
    generalize p.length = pl' at *
    have hz1 : (al : Int) - 65535 = ((al - 65535 : Nat) : Int) := by omega
    have hz2 : ((al - 65535 : Nat) : Int) ≤ (al : Int) := by omega
    have hz3 : ¬ c = al - 65535 := by omega
    have hz4 : al - (al - 65535) = 65535 := by omega
    have hz5 : max ((al - 65535 : Nat) : Int) 0 = ((al - 65535 : Nat) : Int) := by omega
    generalize al - 65535 = kk at *
    go_enter Try.func6, Try.ntmps6
    go_wp2_with (first
      | (go_at_call 10; with_reducible refine (HC.out).mono ?_; rintro e w1 ⟨a1, l1, c1, rfl, HF⟩))
    exact HF.out
  · have hwe : win ahead = ahead := by unfold win; rw [show ahead.length - 65535 = 0 by omega]; rfl
    have HC := key va (by rw [hwe]; exact ha)
    obtain ⟨a, c, rfl, hc, hc2⟩ := ha.form
    clear key HP ha hp hwe
    generalize ahead.length = al at *
    generalize p.length = pl' at *
    have hz5 : max ((al : Int) - 65535) 0 = 0 := by omega
    go_enter Try.func6, Try.ntmps6
    go_wp2_with (first
      | (go_at_call 10; with_reducible refine (HC.out).mono ?_; rintro e w1 ⟨a1, l1, c1, rfl, HF⟩))
    exact HF.out
set_option maxHeartbeats 4000000 in
theorem Encode_long (w : World) (vp va : Value) (p ahead : List By) (hp : Old w vp p) (hpl : 4194304 < p.length) (hp2 : p.length ≤ 140737488351232) :
    Calls Try.prog 6 #[vp, va] w fun e w' => e = .returned (.tuple #[.slice none 0 0, .int .i64 2]) ∧ w' = w := by
  obtain ⟨pa, pc, rfl, _, _⟩ := hp.form
  have hz0 : (4194304 : Int) < (p.length : Int) := by omega
  clear hp
  generalize p.length = pl' at *
  go_enter Try.func6, Try.ntmps6
  go_wp2
  go_ret2
  exact ⟨rfl, rfl⟩
end Go.Proofs.Ytpnacppmdlnjlab
