import Derived.Test.YtpnacppmdlnjlaaMaI
import Derived.Test.YtpnacppmdlnjlaaPaT
namespace Go.Proofs.Ytpnacppmdlnjlaa
open Go.RowKit
set_option linter.unusedVariables false
def sI (s : Sq) : Si := ⟨s.p, s.b, s.n⟩
def sqs (ms : List Sq) (p : List By) : List Si := ms.map sI ++ [⟨p, 0, 0⟩]
theorem sqs_map (ms : List Sq) (p : List By) : (ms ++ [(⟨p, 0, 0⟩ : Sq)]).map sI = sqs ms p := by
  unfold sqs
  rw [List.map_append]
  rfl
theorem canB_sqs (ms : List Sq) (p : List By) (hc : ∀ s ∈ ms, canS s) : CanB (sqs ms p) := by
  have hl : (sqs ms p).length = ms.length + 1 := by simp [sqs]
  refine ⟨by simp [sqs], fun i h => ?_, fun h => ?_⟩
  · have hi : i < ms.length := by omega
    have e : (sqs ms p)[i] = sI ms[i] := by unfold sqs; rw [List.getElem_append_left (by simpa using hi)]; simp
    rw [e]
    obtain ⟨h1, h2, h3⟩ := hc ms[i] (List.getElem_mem hi)
    exact ⟨by show (1 : Int) ≤ (ms[i].b : Int); omega, by show (ms[i].b : Int) ≤ 65535; omega, by show (4 : Int) ≤ (ms[i].n : Int); omega⟩
  · have e : (sqs ms p)[(sqs ms p).length - 1]? = some ⟨p, 0, 0⟩ := by
      rw [hl]; unfold sqs
      rw [List.getElem?_append_right (by simp)]
      simp
    rw [List.getElem?_eq_getElem h] at e
    injection e with e
    rw [e]
    exact ⟨rfl, rfl⟩
theorem encP_sI (s : Sq) (h : canS s) : encP (sI s) = encS s := by
  unfold encP sI
  rw [if_neg (by have := h.1; show ¬ (s.b : Int) = 0; omega)]
  simp
theorem mkI_sqs (ms : List Sq) (p : List By) (hc : ∀ s ∈ ms, canS s) : mkI (sqs ms p) = mk ms p := by
  unfold mkI sqs mk
  rw [List.flatMap_append]
  have e1 : (ms.map sI).flatMap encP = ms.flatMap encS := by
    induction ms with
    | nil => rfl
    | cons s r ih =>
      rw [List.map_cons, List.flatMap_cons, List.flatMap_cons, encP_sI s (hc s (by simp)), ih (fun x hx => hc x (by simp [hx]))]
  rw [e1]
  congr 1
  simp [encP]
/-- What can be made is so many with matches, and a last one. -/
theorem canB_split (l : List Si) (h : CanB l) : ∃ ms p, l = sqs ms p ∧ ∀ s ∈ ms, canS s := by
  obtain ⟨h1, h2, h3⟩ := h
  have hpos : 0 < l.length := List.length_pos_iff.2 h1
  have hlast := h3 (by omega)
  have hc : ∀ s ∈ l.take (l.length - 1), canI s := by
    intro s hs
    obtain ⟨i, hi, rfl⟩ := List.mem_iff_getElem.1 hs
    rw [List.length_take] at hi
    rw [List.getElem_take]
    exact h2 i (by omega)
  refine ⟨(l.take (l.length - 1)).map (fun s => ⟨s.p, s.b.toNat, s.n.toNat⟩), l[l.length - 1].p, ?_, ?_⟩
  · unfold sqs
    rw [List.map_map]
    have e1 : (l.take (l.length - 1)).map (sI ∘ fun s => ⟨s.p, s.b.toNat, s.n.toNat⟩) = l.take (l.length - 1) := by
      conv => rhs; rw [← List.map_id (l.take (l.length - 1))]
      apply List.map_congr_left
      intro s hs
      obtain ⟨k1, k2, k3⟩ := hc s hs
      show (⟨s.p, (s.b.toNat : Int), (s.n.toNat : Int)⟩ : Si) = s
      rw [Int.toNat_of_nonneg (by omega), Int.toNat_of_nonneg (by omega)]
    rw [e1]
    have e2 : (⟨l[l.length - 1].p, 0, 0⟩ : Si) = l[l.length - 1] := by
      generalize l[l.length - 1] = z at hlast
      obtain ⟨zp, zb, zn⟩ := z
      obtain ⟨k1, k2⟩ := hlast
      simp only at k1 k2
      subst k1 k2
      rfl
    rw [e2, List.take_append_getElem (by omega), show l.length - 1 + 1 = l.length by omega, List.take_length]
  · intro s hs
    obtain ⟨x, hx, rfl⟩ := List.mem_map.1 hs
    obtain ⟨k1, k2, k3⟩ := hc x hx
    exact ⟨by show 1 ≤ x.b.toNat; omega, by show x.b.toNat ≤ 65535; omega, by show 4 ≤ x.n.toNat; omega⟩
theorem plainS_full {σ : Type} (T : Tk σ) (L : Nat) (p r : List By) (st : σ) (hr : T.room st p.length = false) : ∃ a, plainS T L (min p.length 15) (ext p.length ++ (p ++ r)) st = .bad a 32 := by
  unfold plainS
  rw [num_ext]
  simp only [hr, if_true]
  exact ⟨_, rfl⟩
theorem scan_full {σ : Type} (T : Tk σ) (L : Nat) (s : Sq) (r : List By) (st : σ) (h1 : T.room st s.p.length = false) : ∃ a, scanS T L (encS s ++ r) st = .bad a 32 := by
  unfold encS
  rw [List.cons_append, scanS_cons, tok_hi, tok_lo, List.append_assoc, List.append_assoc]
  obtain ⟨a, ha⟩ := plainS_full T L s.p _ st h1
  exact ⟨a, by rw [ha]⟩
theorem scan_match {σ : Type} (T : Tk σ) (L : Nat) (s : Sq) (r : List By) (st : σ) (hc : canS s) (h1 : T.room st s.p.length = true) : (T.reaches (T.plain st s.p) s.b = false → ∃ a, scanS T L (encS s ++ r) st = .bad a 30) ∧ (T.reaches (T.plain st s.p) s.b = true → T.room (T.plain st s.p) s.n = false → ∃ a, scanS T L (encS s ++ r) st = .bad a 32) := by
  obtain ⟨hb1, hb2, hn⟩ := hc
  unfold encS
  rw [List.cons_append, scanS_cons, tok_hi, tok_lo, List.append_assoc, List.append_assoc, plainS_ext T L s.p _ st h1]
  simp only [List.cons_append, reduceCtorEq, if_false]
  have e1 : (BitVec.ofNat 8 (s.b % 256)).toNat = s.b % 256 := by rw [BitVec.toNat_ofNat]; omega
  have e2 : (BitVec.ofNat 8 (s.b / 256)).toNat = s.b / 256 := by rw [BitVec.toNat_ofNat]; omega
  have e3 : s.b % 256 + 256 * (s.b / 256) = s.b := by omega
  have e4 : s.n - 4 + 4 = s.n := by omega
  constructor
  · intro h2
    have hm : ∃ a, matchS T L (min (s.n - 4) 15) (BitVec.ofNat 8 (s.b % 256) :: BitVec.ofNat 8 (s.b / 256) :: (ext (s.n - 4) ++ r)) (T.plain st s.p) = .bad a 30 := by
      simp only [matchS, e1, e2, e3]
      rw [if_pos (.inr h2)]
      exact ⟨_, rfl⟩
    obtain ⟨a, ha⟩ := hm
    exact ⟨a, by rw [ha]⟩
  · intro h2 h3
    have hm : ∃ a, matchS T L (min (s.n - 4) 15) (BitVec.ofNat 8 (s.b % 256) :: BitVec.ofNat 8 (s.b / 256) :: (ext (s.n - 4) ++ r)) (T.plain st s.p) = .bad a 32 := by
      simp only [matchS, e1, e2, e3]
      rw [if_neg (fun h => by rcases h with h | h; omega; rw [h2] at h; cases h), num_ext]
      simp only [e4, h3, if_true]
      exact ⟨_, rfl⟩
    obtain ⟨a, ha⟩ := hm
    exact ⟨a, by rw [ha]⟩
/-- Decode is Play of Parse. -/
theorem scan_play {σ : Type} (T : Tk σ) (L : Nat) (p : List By) : ∀ (ms : List Sq), (∀ s ∈ ms, canS s) → ∀ st, match plA T (sqs ms p) st with
    | .ok s => scanS T L (mk ms p) st = .good (T.fin s)
    | .error y => ∃ a, scanS T L (mk ms p) st = .bad a y := by
  intro ms
  induction ms with
  | nil =>
    intro _ st
    show match plA T [⟨p, 0, 0⟩] st with
      | .ok s => scanS T L (encL p) st = .good (T.fin s)
      | .error y => ∃ a, scanS T L (encL p) st = .bad a y
    cases hr : T.room st p.length with
    | true =>
      simp only [plA, plS, hr, Bool.true_eq_false, if_false, if_true]
      exact scan_last T L p st hr
    | false =>
      simp only [plA, plS, hr, if_true]
      obtain ⟨a, ha⟩ := plainS_full T L p [] st hr
      rw [List.append_nil] at ha
      refine ⟨a, ?_⟩
      unfold encL
      rw [scanS_cons, tok_hi, tok_lo, ha]
  | cons s r ih =>
    intro hc st
    have hcs := hc s (by simp)
    have e1 : mk (s :: r) p = encS s ++ mk r p := by unfold mk; rw [List.flatMap_cons, List.append_assoc]
    have e2 : sqs (s :: r) p = sI s :: sqs r p := rfl
    have hb : ¬ (sI s).b = 0 := by have := hcs.1; show ¬ (s.b : Int) = 0; omega
    have eb : (sI s).b.toNat = s.b := by show ((s.b : Int)).toNat = s.b; omega
    have en : (sI s).n.toNat = s.n := by show ((s.n : Int)).toNat = s.n; omega
    have ep : (sI s).p = s.p := rfl
    rw [e1, e2]
    simp only [plA, plS, ep, eb, en, if_neg hb]
    cases h1 : T.room st s.p.length with
    | false => simp only [if_true]; exact scan_full T L s _ st h1
    | true =>
      simp only [Bool.true_eq_false, if_false]
      have hm := scan_match T L s (mk r p) st hcs h1
      cases h2 : T.reaches (T.plain st s.p) s.b with
      | false => simp only [if_true]; exact hm.1 h2
      | true =>
        simp only [Bool.true_eq_false, if_false]
        cases h3 : T.room (T.plain st s.p) s.n with
        | false => simp only [if_true]; exact hm.2 h2 h3
        | true =>
          simp only [Bool.true_eq_false, if_false]
          rw [scan_enc T L s (mk r p) st hcs h1 h2 h3]
          exact ih (fun x hx => hc x (by simp [hx])) _
theorem dec_play (ms : List Sq) (p ahead : List By) (most : Int) (hc : ∀ s ∈ ms, canS s) : (plR (sqs ms p) ahead most).1 = (dec (mk ms p) ahead most).1 ∧ (plR (sqs ms p) ahead most).2 = (dec (mk ms p) ahead most).2.2 := by
  unfold plR dec
  by_cases hm : most < 0 ∨ 4194304 < most
  · rw [if_pos (by rcases hm with h | h; exact .inl h; exact .inr (.inl h)), if_pos hm]
    exact ⟨rfl, rfl⟩
  · rw [if_neg (by intro h; rcases h with h | h | h; exact hm (.inl h); exact hm (.inr h); exact h (canB_sqs ms p hc)), if_neg hm]
    have := scan_play (pl ahead most.toNat) (mk ms p).length p ms hc []
    cases hp : plA (pl ahead most.toNat) (sqs ms p) [] with
    | ok s =>
      rw [hp] at this
      simp only at this
      rw [this]
      exact ⟨rfl, rfl⟩
    | error y =>
      rw [hp] at this
      simp only at this
      obtain ⟨a, ha⟩ := this
      rw [ha]
      exact ⟨rfl, rfl⟩
theorem plS_le' {ahead : List By} {m : Nat} {s : Si} {st st' : List By} (h : plS (pl ahead m) s st = .ok st') : st'.length ≤ m := by
  unfold plS at h
  by_cases h1 : (pl ahead m).room st s.p.length = false
  · rw [if_pos h1] at h; cases h
  rw [if_neg h1] at h
  have h1' : s.p.length + st.length ≤ m := by simpa [pl] using h1
  by_cases h2 : s.b = 0
  · rw [if_pos h2] at h
    injection h with h
    rw [← h]
    show (st ++ s.p).length ≤ m
    rw [List.length_append]; omega
  rw [if_neg h2] at h
  by_cases h3 : (pl ahead m).reaches ((pl ahead m).plain st s.p) s.b.toNat = false
  · rw [if_pos h3] at h; cases h
  rw [if_neg h3] at h
  by_cases h4 : (pl ahead m).room ((pl ahead m).plain st s.p) s.n.toNat = false
  · rw [if_pos h4] at h; cases h
  rw [if_neg h4] at h
  injection h with h
  have h4' : s.n.toNat + (st ++ s.p).length ≤ m := by
    have : ¬ decide (s.n.toNat + (st ++ s.p).length ≤ m) = false := h4
    simpa using this
  rw [← h]
  show ((cop (ahead ++ (st ++ s.p)) s.b.toNat s.n.toNat).drop ahead.length).length ≤ m
  rw [List.length_drop, cop_length, List.length_append]
  omega
theorem plA_le' {ahead : List By} {m : Nat} (l : List Si) : ∀ {st st' : List By}, st.length ≤ m → plA (pl ahead m) l st = .ok st' → st'.length ≤ m := by
  induction l with
  | nil => intro st st' h1 h2; simp only [plA] at h2; injection h2 with h2; rw [← h2]; exact h1
  | cons s r ih =>
    intro st st' h1 h2
    simp only [plA] at h2
    cases hs : plS (pl ahead m) s st with
    | error y => rw [hs] at h2; cases h2
    | ok s1 => rw [hs] at h2; exact ih (plS_le' hs) h2
theorem plR_le' (l : List Si) (ahead : List By) (most : Int) : (plR l ahead most).1.length ≤ 140737488351232 := by
  unfold plR
  split
  · simp
  · rename_i h
    have : ¬ 4194304 < most := fun h2 => h (.inr (.inl h2))
    cases hp : plA (pl ahead most.toNat) l [] with
    | error y => simp
    | ok s =>
      have := plA_le' l (by simp) hp
      show s.length ≤ _
      omega
theorem SqL.toR {K : Nat → Prop} {v : Value} {l : List Sq} {gs : List Nat} {qs : List Q} {w : World} (h : SqL K v l gs qs w) (hl : l.length ≤ 4000000000000) (hp : ∀ s ∈ l, s.p.length ≤ 140737488351232) : OldS w v (l.map sI) := by
  obtain ⟨a, c, rfl, h1, h2⟩ := h.form
  refine ⟨a, c, by simp, by simpa using h1, h2, by simpa using hl, fun hne => ?_⟩
  have hpos : 0 < l.length := by
    rcases Nat.eq_zero_or_pos l.length with h0 | h0
    · rw [List.length_eq_zero_iff.1 h0] at hne; exact absurd rfl hne
    · exact h0
  obtain ⟨g, q0, p0, ea, _, _, x0, _, _, _, _⟩ := h.get 0 hpos
  have hg : g < w.heap.size := by have := World.block_lt_of_cell? _ _ x0; simpa using this
  refine ⟨g, 0, by omega, ea, fun i hi => ?_⟩
  have hi' : i < l.length := by simpa using hi
  obtain ⟨g', q, gp, ea', _, _, y0, y1, y2, hO, _⟩ := h.get i hi'
  rw [ea] at ea'
  injection ea' with ea'
  injection ea' with ea' _
  subst ea'
  have hO' := hO
  obtain ⟨xs, e, _⟩ := hO'
  injection e with e1 e2 e3
  rw [e2] at y0 hO
  simp only [List.getElem_map]
  refine ⟨q.a, q.c, ?_, ?_, ?_, .inr ⟨gp, by have := hO.lt; omega, hO.slb⟩, hp _ (List.getElem_mem hi')⟩
  · rw [Nat.zero_add, Nat.mul_comm]; exact y0
  · rw [Nat.zero_add, Nat.mul_comm]; exact y1
  · rw [Nat.zero_add, Nat.mul_comm]; exact y2
end Go.Proofs.Ytpnacppmdlnjlaa
