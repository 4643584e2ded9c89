import Derived.Test.YtkpkiajehclbhaaVbs
import Derived.Test.YtkpkiajehclbhaaVbp
import Derived.Test.YtkpkiajehclbhaaVbu
import Derived.Test.YtkpkiajehclbhaaVbo
namespace Go.Proofs.Ytkpkiajehclbhaa
open Go.RowKit
set_option linter.unusedVariables false
/-! ### What the law asks of the lengths -/
/-- What I of the lengths cost. -/
def csum (os : List Int) (vals : List Nat) (I : Nat) : Nat := ((List.range I).map (fun i => vals.getD i 0 * (kof os i).toNat)).sum
theorem csum_succ (os : List Int) (vals : List Nat) (I : Nat) : csum os vals (I + 1) = csum os vals I + vals.getD I 0 * (kof os I).toNat := by
  unfold csum
  rw [List.range_succ, List.map_append, List.sum_append]; simp
structure Lng (os : List Int) (m k : Nat) (vals : List Nat) : Prop where
  le : ∀ i, i < os.length → vals.getD i 0 ≤ m
  zero : ∀ i, i < os.length → (vals.getD i 0 = 0 ↔ kof os i = 0)
  one : k = 1 → ∀ i, i < os.length → 0 < kof os i → vals.getD i 0 = 1
  best : 2 ≤ k → ∃ cs, cs.Perm (nums os (psy os os.length)) ∧ Inc cs ∧ cs.length = k ∧ csum os vals os.length = ((cost (pu cs (m - 1))).take (2 * (cs.length - 1))).sum ∧ partsI (toI vals) = 32768
theorem sum_filter0 (f : Nat → Nat) (p : Nat → Bool) (l : List Nat) (h : ∀ x ∈ l, p x = false → f x = 0) : (l.map f).sum = ((l.filter p).map f).sum := by
  induction l with
  | nil => rfl
  | cons a r ih =>
    have h1 := ih (fun x hx => h x (by simp [hx]))
    by_cases hp : p a = true
    · rw [List.filter_cons_of_pos hp, List.map_cons, List.map_cons, List.sum_cons, List.sum_cons, h1]
    · rw [List.filter_cons_of_neg hp, List.map_cons, List.sum_cons, h1, h a (by simp) (by simpa using hp)]; omega
theorem map_range (f : Nat → Nat) (ys : List Nat) : ys.map f = (List.range ys.length).map (fun j => f (ys.getD j 0)) := by
  apply List.ext_getElem
  · simp
  · intro i h1 h2
    have hi : i < ys.length := by simpa using h1
    simp [hi]
theorem perm_sum {a b : List Nat} (h : a.Perm b) : a.sum = b.sum := by
  induction h with
  | nil => rfl
  | cons x _ ih => simp [ih]
  | swap x y l => simp; omega
  | trans _ _ h1 h2 => exact h1.trans h2
/-- A sum over all symbols is one over those that come. -/
theorem sum_come (os : List Int) (ys : List Nat) (h : ys.Perm (psy os os.length)) (f : Nat → Nat) (h0 : ∀ i, i < os.length → i ∉ ys → f i = 0) : ((List.range os.length).map f).sum = ((List.range ys.length).map (fun j => f (ys.getD j 0))).sum := by
  rw [← map_range, sum_filter0 f (fun x => decide (0 < kof os x)) _ (fun x hx hp => ?_)]
  · exact perm_sum ((h.map f).symm)
  · rw [List.mem_range] at hx
    refine h0 x hx (fun hm => ?_)
    have := (psy_mem os os.length x).1 (h.mem_iff.1 hm)
    simp at hp
    omega
theorem partsI_sum (vals : List Nat) : partsI (toI vals) = ((List.range vals.length).map (fun i => prtI (vals.getD i 0 : Nat))).sum := by
  rw [← map_range (fun x => prtI (x : Nat)) vals]
  induction vals with
  | nil => rfl
  | cons a r ih =>
    have e : toI (a :: r) = (a : Int) :: toI r := rfl
    rw [e, partsI, ih, List.map_cons, List.sum_cons]
theorem RfS.inc {os : List Int} {ys : List Nat} (h : RfS os ys) (ho : okO os) : Inc (nums os ys) ∧ ∀ c ∈ nums os ys, 0 < c := by
  have hm : ∀ y ∈ ys, y < os.length ∧ 0 < kof os y := fun y hy => (psy_mem os os.length y).1 (h.perm.mem_iff.1 hy)
  constructor
  · unfold nums
    rw [Inc, List.pairwise_iff_getElem]
    intro i j hi hj hij
    simp only [List.length_map] at hi hj
    rw [List.getElem_map, List.getElem_map, ← getD_eq ys i hi, ← getD_eq ys j hj]
    have := h.srt i j (by omega) hij hj
    omega
  · intro c hc
    unfold nums at hc
    obtain ⟨y, hy, rfl⟩ := List.mem_map.1 hc
    have := (hm y hy).2
    omega
theorem lng_of (os : List Int) (m : Nat) (ys vals : List Nat) (ho : okO os) (hm1 : 1 ≤ m) (hm2 : m ≤ 15) (hr : RfS os ys) (hk : (psy os os.length).length ≤ 2 ^ m) (hv : LnsV os m ys vals) (hl : vals.length = os.length) : Lng os m (psy os os.length).length vals := by
  have hlen := hr.perm.length_eq
  have hin : ∀ i, i < os.length → (i ∈ ys ↔ 0 < kof os i) := fun i hi => by
    rw [hr.perm.mem_iff, psy_mem]; exact ⟨fun h => h.2, fun h => ⟨hi, h⟩⟩
  have hnn : ∀ i, i < os.length → 0 ≤ kof os i := fun i hi => (ho.1 i _ (kof_at os i hi)).1
  rcases hv with ⟨h1, h2⟩ | ⟨h1, h2, h3⟩
  · obtain ⟨y, rfl⟩ : ∃ y, ys = [y] := List.length_eq_one_iff.1 h1
    have e0 : ([y] : List Nat).getD 0 0 = y := rfl
    rw [e0] at h2
    refine ⟨fun i hi => ?_, fun i hi => ?_, fun _ i hi hp => ?_, fun h => ?_⟩
    · rw [h2]; split <;> omega
    · have a := hin i hi
      have b := hnn i hi
      rw [List.mem_singleton] at a
      rw [h2]
      split
      · rename_i e; have := a.1 e; omega
      · rename_i e
        have : ¬ 0 < kof os i := fun h => e (a.2 h)
        omega
    · have a := (hin i hi).2 hp
      rw [List.mem_singleton] at a
      rw [h2, if_pos a]
    · rw [← hlen] at h; simp at h
  · by_cases hk0 : ys.length = 0
    · have hys : ys = [] := List.length_eq_zero_iff.1 hk0
      subst hys
      refine ⟨fun i hi => ?_, fun i hi => ?_, fun e i hi hp => ?_, fun h => ?_⟩
      · rw [h3 i (by simp)]; omega
      · have a := hin i hi
        have b := hnn i hi
        rw [h3 i (by simp)]
        simp only [List.not_mem_nil, false_iff] at a
        omega
      · have a := (hin i hi).2 hp
        simp at a
      · rw [← hlen] at h; simp at h
    · have hk2 : 2 ≤ ys.length := by omega
      obtain ⟨hinc, hpos⟩ := hr.inc ho
      have hcl : (nums os ys).length = ys.length := by simp [nums]
      obtain ⟨m', rfl⟩ : ∃ m', m = m' + 1 := ⟨m - 1, by omega⟩
      obtain ⟨b1, b2, b3⟩ := Go.Proofs.Ytkpkiajehclbhaa.best (nums os ys) hinc hpos m' (by omega) (by rw [hcl, hlen]; exact hk)
      rw [hcl] at b1 b2 b3
      generalize hT : tells (nums os ys) (m' + 1) (2 * (ys.length - 1)) = T at *
      have hvj : ∀ j, j < ys.length → vals.getD (ys.getD j 0) 0 = lnt T j := fun j hj => by rw [h2 j hj]; simp
      have hex : ∀ i, i ∈ ys → ∃ j, j < ys.length ∧ ys.getD j 0 = i := fun i hi => by
        obtain ⟨j, hj, e⟩ := List.mem_iff_getElem.1 hi
        exact ⟨j, hj, by rw [getD_eq ys j hj]; exact e⟩
      refine ⟨fun i hi => ?_, fun i hi => ?_, fun e => by omega, fun _ => ⟨nums os ys, ?_, hinc, by rw [hcl, hlen], ?_, ?_⟩⟩
      · by_cases hy : i ∈ ys
        · obtain ⟨j, hj, rfl⟩ := hex i hy
          rw [hvj j hj]; exact (b3 j hj).2
        · rw [h3 i hy]; omega
      · by_cases hy : i ∈ ys
        · have hp := (hin i hi).1 hy
          obtain ⟨j, hj, rfl⟩ := hex i hy
          rw [hvj j hj]
          have := (b3 j hj).1
          omega
        · have a := mt (hin i hi).2 hy
          have b := hnn i hi
          rw [h3 i hy]
          omega
      · exact hr.perm.map _
      · rw [hcl, Nat.add_sub_cancel, ← b2]
        unfold csum
        rw [sum_come os ys hr.perm _ (fun i hi hy => by rw [h3 i hy]; simp)]
        congr 1
        apply List.map_congr_left
        intro j hj
        rw [List.mem_range] at hj
        rw [hvj j hj]
        congr 1
        rw [getD_eq ys j hj, getD_eq (nums os ys) j (by rw [hcl]; exact hj)]
        simp [nums]
      · rw [partsI_sum, hl, sum_come os ys hr.perm _ (fun i hi hy => by rw [h3 i hy]; rfl)]
        have e : (List.range ys.length).map (fun j => prtI ((vals.getD (ys.getD j 0) 0 : Nat) : Int)) = ((List.range ys.length).map (fun j => 2 ^ (m' + 1 - lnt T j))).map (fun x => x * 2 ^ (14 - m')) := by
          rw [List.map_map]
          apply List.map_congr_left
          intro j hj
          rw [List.mem_range] at hj
          obtain ⟨c1, c2⟩ := b3 j hj
          rw [hvj j hj]
          show prtI _ = 2 ^ (m' + 1 - lnt T j) * 2 ^ (14 - m')
          unfold prtI
          rw [if_pos (by omega), ← Nat.pow_add]
          congr 1
          omega
        rw [e]
        have hs : ∀ (l : List Nat) (c : Nat), (l.map (fun x => x * c)).sum = l.sum * c := fun l c => by
          induction l with
          | nil => simp
          | cons a r ih => rw [List.map_cons, List.sum_cons, ih, List.sum_cons, Nat.add_mul]
        rw [hs, b1, ← Nat.pow_add, show m' + 1 + (14 - m') = 15 by omega]
theorem csum_le (os : List Int) (vals : List Nat) (m : Nat) (hm : m ≤ 15) (ho : okO os) (h : ∀ i, i < os.length → vals.getD i 0 ≤ m) : ∀ I, I ≤ os.length → csum os vals I ≤ I * 16492674416640 := by
  intro I
  induction I with
  | zero => intro _; simp [csum]
  | succ I ih =>
    intro hI
    have a := ih (by omega)
    have b := h I (by omega)
    have c := ho.1 I _ (kof_at os I (by omega))
    have d : vals.getD I 0 * (kof os I).toNat ≤ 15 * 1099511627776 := Nat.mul_le_mul (by omega) (by omega)
    rw [csum_succ]; omega
end Go.Proofs.Ytkpkiajehclbhaa

namespace Go.Proofs.Ytkpkiajehclbhaa
open Go.RowKit
set_option linter.unusedVariables false
/-- The copy of the numbers, with one behind. -/
theorem longs_one (w : World) (v : Value) (os : List Int) (h : SlR RL (fun _ => False) v os w) (hl : os.length ≤ 17592186043904) :
    ∃ g c W g' c' W', Hid (∀ ty, (Builtin.append_ #[71, 71] ty #[.slice (some ⟨w.heap.size, 0, none⟩) 0 0, v]).run Try.prog (w.alloc (.cells #[] 2)) = .ok (.slice (some ⟨g, 0, none⟩) os.length c) W) ∧
      Hid (∀ ty, (Builtin.append_ #[71, 71] ty #[.slice (some ⟨g, 0, none⟩) os.length c, .slice (some ⟨W.heap.size, 0, none⟩) 1 1]).run Try.prog (W.alloc (.cells #[.int .i64 (-7)] 2)) = .ok (.slice (some ⟨g', 0, none⟩) (os.length + 1) c') W') ∧
      OwR RL g' (.slice (some ⟨g', 0, none⟩) (os.length + 1) c') (os ++ [-7]) W' ∧ Nw w W' ∧ w.heap.size ≤ g' := by
  have hN0 : Nw w (w.alloc (.cells #[] 2)) := (Fr.refl _ _).alloc _
  have hs0 : (w.alloc (.cells #[] RL.T)).heap.size = w.heap.size + 1 := by simp
  obtain ⟨v1, g, W, k1, k2, k3, k4⟩ := owR_app rlOk _ _ _ _ (OwR.empty (R := RL) w) v os (h.nw hN0) (by simp [RL]; omega) (by simp; omega)
  rw [List.nil_append] at k2
  obtain ⟨c, e, _, _⟩ := k2.form
  subst e
  have n1 : Nw w W := Fr.then hN0 k3 (fun i hi => .inr (by omega))
  have hg : w.heap.size ≤ g := by rcases k4 with e | e <;> omega
  have hb := OwR.built rlOk W [-7] #[.int .i64 (-7)] (by simp [flatR, RL]) (by simp)
  have hN : Nw W (W.alloc (.cells #[.int .i64 (-7)] 2)) := (Fr.refl _ _).alloc _
  obtain ⟨v', g', W', q1, q2, q3, q4⟩ := owR_app rlOk _ g _ os (k2.nw hN) (.slice (some ⟨W.heap.size, 0, none⟩) 1 1) [-7] ((hb.slr rlOk).mono (fun _ h => h.elim)) (by simp [RL]; omega) (by simp; omega)
  obtain ⟨c', e, _, _⟩ := q2.form
  rw [List.length_append] at e
  subst e
  refine ⟨g, c, W, g', c', W', k1, q1, q2, Fr.then (n1.trans hN) q3 (fun i hi => .inr (by omega)), ?_⟩
  have := n1.size
  rcases q4 with e | e
  · omega
  · have e2 : (W.alloc (.cells #[.int .i64 (-7)] 2)).heap.size = W.heap.size + 1 := by simp
    omega
theorem OwR.cutL {g L c : Nat} {zs ys : List Int} {w : World} (h : OwR RL g (.slice (some ⟨g, 0, none⟩) L c) (zs ++ ys) w) (hL : zs.length + ys.length = L) : OwR RL g (.slice (some ⟨g, 0, none⟩) zs.length c) zs w := by
  obtain ⟨xs, h1, h2, h3, h4, h5⟩ := h
  rw [List.length_append] at h1 h2 h3
  refine ⟨xs, ?_, ?_, by omega, h4, h5⟩
  · have : c = xs.length := by
      generalize xs.length = q at h1
      cases h1
      rfl
    rw [this]
  · have e : (xs.take (zs.length + ys.length)).take zs.length = (zs ++ ys).take zs.length := by rw [h2]
    rw [List.take_take, Nat.min_eq_left (by omega), List.take_left] at e
    exact e
theorem OwR.lowL {g : Nat} {v : Value} {l : List Int} {w : World} (h : OwR RL g v l w) : SlR RL (fun k => w.heap.size ≤ k) v l w := (h.slr rlOk).mono (fun k hk => by have := h.lt; omega)
/-- What Lengths answers, in the law's words. -/
def LnR (os : List Int) (z : Int) (la : Option Addr) (ln lc : Nat) (ez : Int) (w' : World) : Prop :=
  (¬ (okO os ∧ 1 ≤ z ∧ z ≤ 15) ∧ ln = 0 ∧ lc = 0 ∧ ez = 1) ∨
  ∃ m : Nat, z = m ∧ okO os ∧ 1 ≤ m ∧ m ≤ 15 ∧ ((2 ^ m < (psy os os.length).length ∧ ln = 0 ∧ lc = 0 ∧ ez = 2) ∨
    ((psy os os.length).length ≤ 2 ^ m ∧ ∃ gl vals, la = some ⟨gl, 0, none⟩ ∧ ln = os.length ∧ lc = os.length ∧ ez = 0 ∧ Lng os m (psy os os.length).length vals ∧ vals.length = os.length ∧ SwR RI gl (toI vals) w'))
theorem lengths_law (w : World) (v : Value) (os : List Int) (z : Int) (h : SlR RL (fun k => w.heap.size ≤ k) v os w) (hl : os.length ≤ 17592186043904) : Calls Try.prog 39 #[v, .int .i64 z] w fun e w' => ∃ la ln lc ez, e = .returned (.tuple #[.slice la ln lc, .int .i64 ez]) ∧ LnR os z la ln lc ez w' ∧ Nw w w' := by
  refine (lengths_any w v os z h hl).mono ?_
  rintro e w' (⟨h1, rfl, hN⟩ | ⟨m, rfl, ho, hm1, hm2, ⟨h1, rfl, hN⟩ | ⟨h1, gl, ys, vals, rfl, hr, hv, hvl, hs, hg, hN⟩⟩)
  · exact ⟨_, _, _, _, rfl, .inl ⟨h1, rfl, rfl, rfl⟩, hN⟩
  · exact ⟨_, _, _, _, rfl, .inr ⟨m, rfl, ho, hm1, hm2, .inl ⟨h1, rfl, rfl, rfl⟩⟩, hN⟩
  · exact ⟨_, _, _, _, rfl, .inr ⟨m, rfl, ho, hm1, hm2, .inr ⟨h1, gl, vals, rfl, rfl, rfl, rfl, lng_of os m ys vals ho hm1 hm2 hr h1 hv hvl, hvl, hs⟩⟩, hN⟩
theorem ok44 : okO [4, 4] := by
  refine ⟨fun j x hx => ?_, by decide, by decide⟩
  have := List.mem_of_getElem? hx
  simp at this
  omega
theorem prt_one (v : Nat) (h : prtI (v : Nat) = 16384) : v = 1 := by
  unfold prtI at h
  split at h
  · rename_i hv
    have : (v : Int).toNat = v := by simp
    rw [this] at h
    have h15 : v ≤ 15 := by omega
    have h0 : v ≠ 0 := by omega
    rcases v with _ | _ | _ | _ | _ | _ | _ | _ | _ | _ | _ | _ | _ | _ | _ | _ | v <;> first | omega | (simp at h)
  · omega
/-- The two symbols that come as often. -/
theorem lengths_two (w : World) : Calls Try.prog 39 #[.slice (some ⟨w.heap.size, 0, none⟩) 2 2, .int .i64 3] (w.alloc (.cells #[.int .i64 4, .int .i64 4] 2)) fun e w' => ∃ g, e = .returned (.tuple #[.slice (some ⟨g, 0, none⟩) 2 2, .int .i64 0]) ∧ w'.cell? ⟨g, 0, none⟩ = some (.int .i64 1) ∧ w'.cell? ⟨g, 1, none⟩ = some (.int .i64 1) ∧ Nw w w' := by
  have hb := OwR.built rlOk w [4, 4] #[.int .i64 4, .int .i64 4] (by simp [flatR, RL]) (by simp)
  have hN : Nw w (w.alloc (.cells #[.int .i64 4, .int .i64 4] 2)) := (Fr.refl _ _).alloc _
  refine (lengths_law _ (.slice (some ⟨w.heap.size, 0, none⟩) 2 2) [4, 4] 3 hb.lowL (by simp)).mono ?_
  have hk : (psy [4, 4] ([4, 4] : List Int).length).length = 2 := by decide
  rintro e w' ⟨la, ln, lc, ez, rfl, (⟨h1, _⟩ | ⟨m, hm, ho, hm1, hm2, ⟨h1, _⟩ | ⟨h1, gl, vals, rfl, rfl, rfl, rfl, hL, hvl, hs⟩⟩), hN2⟩
  · exact absurd ⟨ok44, by omega, by omega⟩ h1
  · rw [hk] at h1
    have : (2 : Nat) ^ 1 ≤ 2 ^ m := Nat.pow_le_pow_right (by decide) hm1
    omega
  · rw [hk] at hL
    obtain ⟨_, _, _, _, _, hp⟩ := hL.best (by omega)
    match vals, hvl with
    | [a, b], _ =>
      have hp2 : prtI (a : Nat) + (prtI (b : Nat) + 0) = 32768 := hp
      have ha := prtI_le (a : Nat)
      have hb := prtI_le (b : Nat)
      obtain rfl := prt_one a (by omega)
      obtain rfl := prt_one b (by omega)
      have c0 := (hs.cell riOk 0 0 _ _ rfl rfl).1
      have c1 := (hs.cell riOk 1 0 _ _ rfl rfl).1
      exact ⟨gl, rfl, c0, c1, hN.trans hN2⟩
end Go.Proofs.Ytkpkiajehclbhaa
