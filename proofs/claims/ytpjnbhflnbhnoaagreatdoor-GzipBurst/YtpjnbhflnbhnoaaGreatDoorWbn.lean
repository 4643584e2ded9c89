import Derived.Test.YtpjnbhflnbhnoaaGreatDoorWbk
namespace Go.Proofs.YtpjnbhflnbhnoaaGreatDoor
open Go.RowKit
set_option linter.unusedVariables false
theorem idec_eq {b : List By} {mo : Nat} (hm : mo ≤ 4194304) : idec b mo = if (run mo ini (bt b 0)).2.2 = 0 then ((run mo ini (bt b 0)).1.out, b.length - ((run mo ini (bt b 0)).2.1.n + 7) / 8, 0) else ([], 0, (run mo ini (bt b 0)).2.2) := by
  rw [idec, if_neg (by omega), Int.toNat_natCast]
theorem idec_err {b : List By} {mo : Nat} (hm : mo ≤ 4194304) (h : (idec b mo).2.2 ≠ 0) : (run mo ini (bt b 0)).2.2 ≠ 0 ∧ idec b mo = ([], 0, (run mo ini (bt b 0)).2.2) := by
  rw [idec_eq hm] at h ⊢
  by_cases e : (run mo ini (bt b 0)).2.2 = 0
  · rw [if_pos e] at h; exact absurd rfl h
  · rw [if_neg e]; exact ⟨e, rfl⟩
theorem idec_fine {b : List By} {mo : Nat} (hm : mo ≤ 4194304) (h : (idec b mo).2.2 = 0) : (run mo ini (bt b 0)).2.2 = 0 ∧ idec b mo = ((run mo ini (bt b 0)).1.out, b.length - ((run mo ini (bt b 0)).2.1.n + 7) / 8, 0) := by
  rw [idec_eq hm] at h ⊢
  by_cases e : (run mo ini (bt b 0)).2.2 = 0
  · rw [if_pos e]; exact ⟨e, rfl⟩
  · rw [if_neg e] at h; exact absurd h e
/-- With more room. -/
theorem idec_more {b : List By} {mo : Nat} (hm : mo ≤ 4194304) (h : (idec b mo).2.2 ≠ 32) : idec b (4194304 : Nat) = idec b mo := by
  have hr : run 4194304 ini (bt b 0) = run mo ini (bt b 0) := by
    refine run_room hm ini _ (fun e => h ?_)
    rw [idec_eq hm, if_neg (by omega)]; exact e
  rw [idec_eq hm, idec_eq (Nat.le_refl _), hr]
/-- What may come out, and how many bytes a stream has. -/
theorem idec_bound {b : List By} {mo : Nat} (hm : mo ≤ 4194304) (h : (idec b mo).2.2 = 0) : (idec b mo).1.length ≤ mo ∧ (idec b mo).1.length ≤ 1032 * b.length ∧ 1 ≤ (idec b mo).2.1 ∧ (idec b mo).2.1 ≤ b.length := by
  obtain ⟨h0, he⟩ := idec_fine hm h
  obtain ⟨a1, a2, a3, a4, _⟩ := run_ad ini (bt b 0) (iv_ini mo _)
  obtain ⟨a5, a6⟩ := a4 h0
  have a7 := a6 (by decide)
  have a8 := a1.en a5
  have a9 := a1.ol
  rw [he]
  have hn : (bt b 0).n = 8 * b.length := by rw [bt_n]; omega
  have ho : ini.out.length = 0 := rfl
  simp only
  omega
end Go.Proofs.YtpjnbhflnbhnoaaGreatDoor

namespace Go.Proofs.YtpjnbhflnbhnoaaGreatDoor
open Go.RowKit
set_option linter.unusedVariables false
/-- Bits behind whole bytes. -/
theorem bt_drop (b : List By) (k : Nat) (hk : k ≤ b.length) : bt b (8 * k) = bt (b.drop k) 0 := by
  unfold bt
  simp only [Bt.mk.injEq]
  refine ⟨by rw [List.length_drop]; omega, ?_⟩
  rw [le_drop, pow256, Nat.pow_zero, Nat.div_one]
theorem takeR_bt (b : List By) (p k : Nat) (h : p + k ≤ 8 * b.length) : takeR k (bt b p) = .ok (le b / 2 ^ p % 2 ^ k, bt b (p + k)) := by
  rw [← bt_rest]
  unfold takeR
  rw [if_neg (by rw [bt_n]; omega), bt_x]
/-- A stored block's head. -/
def shead (l : Nat) (n : Nat) : List By := [BitVec.ofNat 8 l, BitVec.ofNat 8 n, BitVec.ofNat 8 (n / 256), BitVec.ofNat 8 (255 - n % 256), BitVec.ofNat 8 (255 - n / 256)]
theorem shead_run (most l : Nat) (s : Sx) (n : Nat) (rest : List By) (hl : l = 0 ∨ l = 1) (hm : s.md = 0) (hn : n ≤ 65535) (hr : n ≤ most - s.out.length) :
    stepR most s (bt (shead l n ++ rest) 0) = (if n = 0 then endB { s with lst := decide (l = 1), md := 1, sto := 0 } else retR { s with lst := decide (l = 1), md := 1, sto := n }) (bt (shead l n ++ rest) 40) := by
  obtain ⟨r, hrr⟩ : ∃ r, r = shead l n ++ rest := ⟨_, rfl⟩
  have hlen : 5 ≤ r.length := by rw [hrr]; simp [shead]
  have hle : le r = l + 256 * (n % 256 + 256 * (n / 256 + 256 * ((255 - n % 256) + 256 * ((255 - n / 256) + 256 * le rest)))) := by
    rw [hrr]
    simp only [shead, List.cons_append, List.nil_append, le, BitVec.toNat_ofNat]
    omega
  rw [← hrr]
  obtain ⟨a0, ha0⟩ : ∃ a0, a0 = n % 256 := ⟨_, rfl⟩
  obtain ⟨a1, ha1⟩ : ∃ a1, a1 = n / 256 := ⟨_, rfl⟩
  rw [← ha0, ← ha1] at hle
  obtain ⟨c0, hc0⟩ : ∃ c0, c0 = 255 - a0 := ⟨_, rfl⟩
  obtain ⟨c1, hc1⟩ : ∃ c1, c1 = 255 - a1 := ⟨_, rfl⟩
  rw [← hc0, ← hc1] at hle
  have hle2 : le r = l + 256 * a0 + 65536 * a1 + 16777216 * c0 + 4294967296 * c1 + 1099511627776 * le rest := by rw [hle]; omega
  have b0 : a0 ≤ 255 := by omega
  have b1 : a1 ≤ 255 := by omega
  have b2 : c0 + a0 = 255 := by omega
  have b3 : c1 + a1 = 255 := by omega
  have b4 : n = a0 + 256 * a1 := by omega
  have b5 : l ≤ 1 := by omega
  clear hle ha0 ha1 hc0 hc1
  generalize le rest = R at *
  have e1 : le r / 2 ^ 0 % 2 ^ 1 = l := by
    rw [hle2, show (2 : Nat) ^ 0 = 1 from rfl, show (2 : Nat) ^ 1 = 2 from rfl]; omega
  have e2 : le r / 2 ^ 1 % 2 ^ 2 = 0 := by
    rw [hle2, show (2 : Nat) ^ 1 = 2 from rfl, show (2 : Nat) ^ 2 = 4 from rfl]; omega
  have e3 : le r / 2 ^ 8 % 2 ^ 16 = n := by
    rw [hle2, show (2 : Nat) ^ 8 = 256 from rfl, show (2 : Nat) ^ 16 = 65536 from rfl]; omega
  have e4 : le r / 2 ^ 24 % 2 ^ 16 = 65535 - n := by
    have q1 : le r = (l + 256 * a0 + 65536 * a1) + 16777216 * ((c0 + 256 * c1) + 65536 * R) := by rw [hle2]; omega
    rw [q1, show (2 : Nat) ^ 24 = 16777216 from rfl, show (2 : Nat) ^ 16 = 65536 from rfl, Nat.add_mul_div_left _ _ (by decide), Nat.div_eq_of_lt (by omega), Nat.zero_add, Nat.add_mul_mod_self_left, Nat.mod_eq_of_lt (by omega)]
    omega
  have t1 := takeR_bt r 0 1 (by omega)
  have t2 := takeR_bt r 1 2 (by omega)
  have t3 := (alignR_bt r 3 (by omega)).1
  have t4 := takeR_bt r 8 16 (by omega)
  have t5 := takeR_bt r 24 16 (by omega)
  rw [e1] at t1
  rw [e2] at t2
  rw [show up8 3 = 8 from rfl] at t3
  rw [e3] at t4
  rw [e4] at t5
  rw [stepR, if_pos hm, headR, bindR_eq t1, bindR_eq t2, if_pos rfl, storedR, bindR_eq t3, bindR_eq t4, bindR_eq t5, if_neg (by omega), if_neg (by simp only; omega)]
/-- A stored block that is not the last. -/
theorem stored_one (most : Nat) (s : Sx) (x rest : List By) (hm : s.md = 0) (hn : x.length ≤ 65535) (hr : x.length ≤ most - s.out.length) :
    ∃ s', run most s (bt (shead 0 x.length ++ x ++ rest) 0) = run most s' (bt rest 0) ∧ s'.md = 0 ∧ s'.out = s.out ++ x := by
  rw [List.append_assoc]
  have h1 := shead_run most 0 s x.length (x ++ rest) (.inl rfl) hm hn hr
  obtain ⟨r, hrr⟩ : ∃ r, r = shead 0 x.length ++ (x ++ rest) := ⟨_, rfl⟩
  have hlen : r.length = 5 + x.length + rest.length := by rw [hrr]; simp [shead]; omega
  rw [← hrr] at h1 ⊢
  have hd5 : r.drop 5 = x ++ rest := by rw [hrr]; rfl
  have hend : bt r (40 + 8 * x.length) = bt rest 0 := by
    rw [show 40 + 8 * x.length = 8 * (5 + x.length) by omega, bt_drop r (5 + x.length) (by omega), ← List.drop_drop, hd5, List.drop_left]
  by_cases h0 : x.length = 0
  · obtain rfl : x = [] := List.eq_nil_of_length_eq_zero h0
    rw [if_pos (show ([] : List By).length = 0 from rfl)] at h1
    have h2 : endB { s with lst := decide (0 = 1), md := 1, sto := 0 } (bt r 40) = .ok ({ s with lst := false, md := 0, sto := 0 }, bt r 40) := rfl
    rw [h2] at h1
    refine ⟨{ s with lst := false, md := 0, sto := 0 }, (run_ok (by omega) h1).trans ?_, rfl, (List.append_nil _).symm⟩
    rw [← hend]; rfl
  · rw [if_neg h0] at h1
    have h2 := run_ok (most := most) (by omega) (show stepR most s (bt r 0) = .ok ({ s with lst := decide (0 = 1), md := 1, sto := x.length }, bt r 40) from h1)
    obtain ⟨_, h3⟩ := bytes_run most r x.length 40 { s with lst := decide (0 = 1), md := 1, sto := x.length } rfl (by omega) (Nat.le_refl _) (by omega)
    have hlo : lows (le r / 2 ^ 40) x.length = x := by
      have := lows_tk r 5 x.length (by omega)
      rw [hd5, List.take_left] at this
      exact this.symm
    rw [hlo] at h3
    have h4 := h3 rfl { s with lst := false, md := 0, sto := 0, out := s.out ++ x } (bt r (40 + 8 * x.length)) rfl
    exact ⟨_, (h2.trans h4).trans (by rw [hend]), rfl, rfl⟩
/-- The last one, of no bytes. -/
theorem stored_last (most : Nat) (s : Sx) (rest : List By) (hm : s.md = 0) : ∃ s', run most s (bt (shead 1 0 ++ rest) 0) = (s', bt rest 0, 0) ∧ s'.out = s.out := by
  have h1 := shead_run most 1 s 0 rest (.inr rfl) hm (by decide) (by omega)
  rw [if_pos rfl] at h1
  have hlen : (shead 1 0 ++ rest).length = 5 + rest.length := by simp [shead]; omega
  obtain ⟨z1, z2⟩ := alignR_bt (shead 1 0 ++ rest) 40 (by omega)
  have h2 : endB { s with lst := decide (1 = 1), md := 1, sto := 0 } (bt (shead 1 0 ++ rest) 40) = .ok ({ s with lst := true, md := 3, sto := 0 }, bt (shead 1 0 ++ rest) 40) := by
    unfold endB
    rw [if_pos (by rfl), bindR_eq z1]; rfl
  rw [h2] at h1
  refine ⟨{ s with lst := true, md := 3, sto := 0 }, ?_, rfl⟩
  rw [run_ok (by omega) h1, run_end rfl, show (40 : Nat) = 8 * 5 from rfl, bt_drop _ 5 (by omega)]
  rfl
/-- Pieces laid down as stored blocks. -/
def slay : List (List By) → List By
  | [] => []
  | x :: r => shead 0 x.length ++ x ++ slay r
theorem slay_run (most : Nat) (behind : List By) : ∀ (ps : List (List By)) (s : Sx), s.md = 0 → (∀ x ∈ ps, x.length ≤ 65535) → s.out.length + ps.flatten.length ≤ most →
    ∃ s', run most s (bt (slay ps ++ (shead 1 0 ++ behind)) 0) = (s', bt behind 0, 0) ∧ s'.out = s.out ++ ps.flatten := by
  intro ps
  induction ps with
  | nil =>
    intro s hm _ _
    obtain ⟨s', h1, h2⟩ := stored_last most s behind hm
    exact ⟨s', h1, by rw [h2]; simp⟩
  | cons x r ih =>
    intro s hm hx hl
    simp only [List.flatten_cons, List.length_append] at hl
    obtain ⟨s1, h1, h2, h3⟩ := stored_one most s x (slay r ++ (shead 1 0 ++ behind)) hm (hx x (List.mem_cons_self ..)) (by omega)
    obtain ⟨s', h4, h5⟩ := ih s1 h2 (fun y hy => hx y (List.mem_cons_of_mem _ hy)) (by rw [h3, List.length_append]; omega)
    refine ⟨s', ?_, by rw [h5, h3]; simp⟩
    rw [slay, List.append_assoc, h1, h4]
theorem slay_dec (ps : List (List By)) (behind : List By) (hx : ∀ x ∈ ps, x.length ≤ 65535) (hl : ps.flatten.length ≤ 4194304) : idec (slay ps ++ (shead 1 0 ++ behind)) (ps.flatten.length : Nat) = (ps.flatten, (slay ps ++ shead 1 0).length, 0) := by
  obtain ⟨s', h1, h2⟩ := slay_run ps.flatten.length behind ps ini rfl hx (by simp [ini])
  rw [idec_eq hl, h1]
  simp only [if_true]
  rw [h2]
  have : (bt behind 0).n = 8 * behind.length := by rw [bt_n]; omega
  simp only [ini, List.nil_append, Prod.mk.injEq, true_and, and_true, List.length_append]
  rw [this]
  omega
end Go.Proofs.YtpjnbhflnbhnoaaGreatDoor
