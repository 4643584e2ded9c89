import Derived.Test.YtkpkiajehclbhaaVbm
import Derived.Lib.MinMax
namespace Go.Proofs.Ytkpkiajehclbhaa
open Go.RowKit
set_option linter.unusedVariables false
/-- All that share stands on. -/
structure ShI (lb gl n : Nat) (os : List Int) (ys : List Nat) (vo vs : Value) (vals : List Nat) (w : World) : Prop where
  o : SlR RL (fun k => k = gl ∨ w.heap.size ≤ k) vo os w
  y : SlR RI (fun k => k = gl ∨ w.heap.size ≤ k) vs (toI ys) w
  ns : NsI os ys
  nd : ys.Nodup
  ol : os.length = n
  n320 : n ≤ 320
  yl : ys.length ≤ n
  l : LnI lb gl n vals w
  z : VlI ys [] 0 vals
def ShA (lb gl n : Nat) (os : List Int) (ys : List Nat) (m : Nat) (w : World) (e : Ending) (w' : World) : Prop := (∃ r, e = .returned r) ∧ (∃ vals, LnI lb gl n vals w' ∧ VlI ys (tells (nums os ys) m (2 * (ys.length - 1))) 0 vals) ∧ Fr (fun k => k = gl) w w'
theorem lnt_le2 (T : List Nat) (j : Nat) (h : T.length ≤ 15) : lnt T j ≤ 15 := Nat.le_trans (lnt_le T j) h
/-- Where the purses are being made: I are there; the pairs of the last one are at hand. -/
def LpI (w : World) (pb : Nat) (cs : List Nat) (I : Nat) (a : Option Addr) (np c : Nat) (wr : World) : Prop := PuI w pb cs I wr ∧ Nw w wr ∧ ∃ ps, ps.length = np ∧ mg cs ps = pu cs I ∧ SlR RC (fun k => wr.heap.size ≤ k) (.slice a np c) (prs ps) wr ∧ (∀ p ∈ ps, p ≤ 72057594037927936)
set_option maxHeartbeats 64000000 in
set_option maxRecDepth 100000 in
theorem share_any {lb gl n : Nat} {os : List Int} {ys : List Nat} {vo vs : Value} {vals : List Nat} {w : World} (h : ShI lb gl n os ys vo vs vals w) (m : Nat) (hm1 : 1 ≤ m) (hm2 : m ≤ 15) (hk : ys.length ≤ 2 ^ m) : Calls Try.prog 58 #[vo, vs, .int .i64 m, .func (.func 59) #[] #[.pointer (some ⟨lb, 0, none⟩)]] w (ShA lb gl n os ys m w) := by
  obtain ⟨P, hP⟩ : ∃ P : Ending → World → Prop, P = ShA lb gl n os ys m w := ⟨_, rfl⟩
  rw [← hP]
  have HP : Hid (P = ShA lb gl n os ys m w) := hP
  have HH : Hid (ShI lb gl n os ys vo vs vals w) := h
  have hn320 := h.n320
  have hyl := h.yl
  have hlo320 : os.length ≤ 320 := by have := h.ol; omega
  have HOL : Hid (os.length = n) := h.ol
  obtain ⟨ao, co, rfl, hco, hco2, _⟩ := h.o.form
  obtain ⟨ay, cy, rfl, hcy, hcy2, _⟩ := h.y.form
  rw [toI_length] at hcy
  have hgl : gl < w.heap.size := h.l.v.lt
  have hcl : (nums os ys).length = ys.length := by simp [nums]
  have HI0 : Hid (PuI w w.heap.size (nums os ys) 0 (w.alloc (.cells (Array.replicate 15 (.slice none 0 0)) 114))) := PuI.start w _ _ (by simp)
  clear hP h
  generalize hL : ys.length = L at *
  have HL : Hid (ys.length = L) := hL
  clear hL
  generalize hLo : os.length = Lo at *
  have HLo : Hid (os.length = Lo) := hLo
  clear hLo
  have hcb : ∀ c ∈ nums os ys, c ≤ 1099511627776 := fun c hc => by
    unfold nums at hc
    obtain ⟨y, hy, rfl⟩ := List.mem_map.1 hc
    have := HH.out.ns.nn y hy
    omega
  have HCB : Hid (∀ c ∈ nums os ys, c ≤ 1099511627776) := hcb
  have HMG : Hid (∀ V I a np c, I < 15 → LpI w w.heap.size (nums os ys) I a np c V → Calls Try.prog 65 #[.slice ao Lo co, .slice ay L cy, .slice a np c] V fun e w1 => ∃ g c' N u, e = .returned (.slice (some ⟨g, 0, none⟩) N c') ∧ (w1.cell? ⟨w.heap.size, I, none⟩ = some u ∧ w1.frozen? ⟨w.heap.size, I, none⟩ = false) ∧ Hid (Calls Try.prog 66 #[.slice (some ⟨g, 0, none⟩) N c'] (w1.setCell ⟨w.heap.size, I, none⟩ (.slice (some ⟨g, 0, none⟩) N c')) fun e w2 => ∃ a2 n2 c2, e = .returned (.slice a2 n2 c2) ∧ Hid (LpI w w.heap.size (nums os ys) (I + 1) a2 n2 c2 w2))) := by
    rintro V I a np c hI ⟨h1, h2, ps, h3, h4, h5, h6⟩
    have hpl : ps.length ≤ 1000 := by
      have := pu_le (nums os ys) I
      rw [← h4, mg_length, hcl] at this
      omega
    have ho := (HH.out.o.nw h2).mono (Y := fun k => V.heap.size ≤ k) (fun k hk => .inr (Nat.le_trans h2.size hk))
    have hy := (HH.out.y.nw h2).mono (Y := fun k => V.heap.size ≤ k) (fun k hk => .inr (Nat.le_trans h2.size hk))
    rw [toI_length, HL.out] at hy
    refine (merged_any V _ _ _ os ys ps ho hy h5 HH.out.ns (by rw [HLo.out]; omega) (by rw [HL.out]; omega) hpl h6).mono ?_
    rintro e w1 ⟨g, c', rfl, k1, k2, k3⟩
    rw [h4] at k1 ⊢
    have hp1 := h1.nw k3
    obtain ⟨u, u1, u2⟩ := hp1.free hI
    have hgn : g ≠ w.heap.size := by
      obtain ⟨A, e1, _⟩ := h1.row
      have := (Array.getElem?_eq_some_iff.1 e1).1
      omega
    obtain ⟨q1, q2⟩ := hp1.put hI g c' k1 (Nat.le_trans h2.size k2) hgn
    refine ⟨g, c', _, u, rfl, ⟨u1, u2⟩, ?_⟩
    have hO2 := k1.kept q2 hgn
    have hlo : SlR RC (fun k => (w1.setCell ⟨w.heap.size, I, none⟩ (.slice (some ⟨g, 0, none⟩) (pu (nums os ys) I).length c')).heap.size ≤ k) (.slice (some ⟨g, 0, none⟩) (pu (nums os ys) I).length c') (pu (nums os ys) I) _ := (hO2.slr rcOk).mono (fun k hk => by have := hO2.lt; omega)
    refine (paired_any _ _ _ hlo (by have := pu_le (nums os ys) I; rw [hcl] at this; omega) (fun x hx => ?_)).mono ?_
    · have := pu_bound _ _ HCB.out I x.1 (List.mem_map.2 ⟨x, hx, rfl⟩)
      have h2 : (2 : Nat) ^ I ≤ 2 ^ 14 := Nat.pow_le_pow_right (by decide) (by omega)
      have h3 : 1099511627776 * 2 ^ I ≤ 1099511627776 * 2 ^ 14 := Nat.mul_le_mul_left _ h2
      omega
    · rintro e w2 ⟨g2, c2, rfl, r1, r2, r3⟩
      refine ⟨_, _, c2, rfl, q1.nw r3, (Fr.then (h2.trans k3) q2 (fun k hk => .inr (by omega))).trans r3, pr (cost (pu (nums os ys) I)), by rw [prc_eq]; simp [prs], rfl, ?_, fun p hp => ?_⟩
      · exact (r1.slr rcOk).mono (fun k hk => by have := r1.lt; omega)
      · have hb := pu_bound _ _ HCB.out (I + 1) p ((mg_perm _ _).mem_iff.2 (List.mem_append.2 (.inr hp)))
        have h2 : (2 : Nat) ^ (I + 1) ≤ 2 ^ 15 := Nat.pow_le_pow_right (by decide) (by omega)
        have h3 : 1099511627776 * 2 ^ (I + 1) ≤ 1099511627776 * 2 ^ 15 := Nat.mul_le_mul_left _ h2
        omega
  have HL0 : Hid (LpI w w.heap.size (nums os ys) 0 none 0 0 (w.alloc (.cells #[.slice none 0 0, .slice none 0 0, .slice none 0 0, .slice none 0 0, .slice none 0 0, .slice none 0 0, .slice none 0 0, .slice none 0 0, .slice none 0 0, .slice none 0 0, .slice none 0 0, .slice none 0 0, .slice none 0 0, .slice none 0 0, .slice none 0 0] 114))) := ⟨HI0.out, (Fr.refl _ _).alloc _, [], rfl, rfl, .inl ⟨none, rfl, rfl⟩, fun p hp => by cases hp⟩
  clear hcb HI0
  rw [toI_length, HL.out]
  obtain ⟨pb, hpb⟩ : ∃ pb, pb = w.heap.size := ⟨_, rfl⟩
  have HPB : Hid (pb = w.heap.size) := hpb
  rw [← hpb] at HMG HL0
  go_enter Try.func58, Try.ntmps58
  go_upto_region 1 with fail
  rw [← hpb]
  clear hpb
  generalize w.alloc (.cells #[.slice none 0 0, .slice none 0 0, .slice none 0 0, .slice none 0 0, .slice none 0 0, .slice none 0 0, .slice none 0 0, .slice none 0 0, .slice none 0 0, .slice none 0 0, .slice none 0 0, .slice none 0 0, .slice none 0 0, .slice none 0 0, .slice none 0 0] 114) = W1 at *
  go_wp2_with fail
  go_loopg [9, 17] m (fun kx pp i wr => ∃ (I np c : Nat) (a : Option Addr), I ≤ m ∧ m - I ≤ kx ∧ pp = .slice a np c ∧ i = .int .i64 I ∧ Hid (LpI w pb (nums os ys) I a np c wr))
  case atStart => exact ⟨0, 0, 0, none, by omega, by omega, rfl, rfl, HL0⟩
  case round =>
    clear HL0
    obtain ⟨I, np, c, a, hI, hkx, rfl, rfl, HI⟩ := hrel
    by_cases hlt : I < m
    · have hz : (I : Int) < (m : Int) := by omega
      have hz15 : (I : Int) < 15 := by omega
      have HC := HMG.out wr I a np c (by omega) HI.out
      have HC : Hid (Calls Try.prog 65 #[.slice ao Lo co, .slice ay L cy, .slice a np c] wr fun e w1 => ∃ g c' N u, e = .returned (.slice (some ⟨g, 0, none⟩) N c') ∧ (w1.cell? ⟨pb, I, none⟩ = some u ∧ w1.frozen? ⟨pb, I, none⟩ = false) ∧ Hid (Calls Try.prog 66 #[.slice (some ⟨g, 0, none⟩) N c'] (w1.setCell ⟨pb, I, none⟩ (.slice (some ⟨g, 0, none⟩) N c')) fun e w2 => ∃ a2 n2 c2, e = .returned (.slice a2 n2 c2) ∧ Hid (LpI w pb (nums os ys) (I + 1) a2 n2 c2 w2))) := HC
      clear HI HMG HP HH HCB
      go_wp2_with (first
        | (go_at_call 65; (with_reducible refine HC.out.mono ?_); rintro e w1 ⟨g, c', N, u, rfl, ⟨u1, u2⟩, H1⟩)
        | (go_at_call 66; (with_reducible refine H1.out.mono ?_); rintro e w2 ⟨a2, n2, c2, rfl, H2⟩))
      go_roundg (m - (I + 1))
      case measure => omega
      case rel => exact ⟨I + 1, n2, c2, a2, by omega, by omega, rfl, by first | rfl | (congr 1), H2⟩
    · obtain rfl : I = m := by omega
      have hz : ¬ (I : Int) < (I : Int) := by omega
      obtain ⟨T0, hT0⟩ : ∃ T0, T0 = 2 * (L - 1) := ⟨_, rfl⟩
      obtain ⟨M1, hM1⟩ : ∃ M1, M1 + 1 = I := ⟨I - 1, by omega⟩
      have hM1i : (I : Int) - 1 = (M1 : Int) := by omega
      have HJ0 : Hid (∃ T vals, T ++ tells (nums os ys) I T0 = tells (nums os ys) I T0 ∧ T.length + I = I ∧ (0 < I → T0 ≤ (pu (nums os ys) (I - 1)).length) ∧ LnI lb gl n vals wr ∧ VlI ys T 0 vals ∧ PuI w pb (nums os ys) I wr ∧ Fr (fun k => k = gl) w wr) := by
        obtain ⟨h1, h2, _⟩ := HI.out
        refine ⟨[], vals, rfl, by simp, fun _ => ?_, HH.out.l.nw h2, HH.out.z, h1, h2.any⟩
        rw [hT0]
        by_cases e : L = 0
        · rw [e]; omega
        · have := pu_fits (nums os ys) (by rw [hcl]; omega) (I - 1) (by rw [hcl, show I - 1 + 1 = I by omega]; exact hk)
          rw [hcl] at this
          exact this
      have HFin : Hid (∀ r T vals V, T = tells (nums os ys) I T0 → LnI lb gl n vals V → VlI ys T 0 vals → Fr (fun k => k = gl) w V → P (.returned r) V) := fun r T vals V e1 e2 e3 e4 => by
        rw [HP.out]
        refine ⟨⟨r, rfl⟩, ⟨vals, e2, ?_⟩, e4⟩
        rw [HL.out, ← hT0, ← e1]; exact e3
      clear HI HMG HP HCB
      have HT0 : Hid (T0 = 2 * (L - 1)) := hT0
      have hTb : T0 ≤ 640 := by omega
      have HS0 : Hid (T0 = if L = 0 then 0 else 2 * (L - 1)) := by
        show T0 = _
        by_cases e : L = 0
        · rw [if_pos e, hT0, e]
        · rw [if_neg e, hT0]
      clear hT0
      go_upto_region 8 with fail
      go_cut [11] (fun v wx => v = .int .i64 T0 ∧ wx = wr)
      case first =>
        clear HJ0 HFin HH
        by_cases hL0 : L = 0
        · have hL1i : (L : Int) - 1 = -1 := by omega
          have hT : T0 = 0 := by have := HS0.out; rw [if_pos hL0] at this; exact this
          have hTi : (0 : Int) = (T0 : Int) := by omega
          have HX : Hid ((0 : Int) = (T0 : Int)) := hTi
          clear hL0 HS0 HT0 hT hTi
          go_wp2_with fail
          go_meet
          exact ⟨by rw [← HX.out]; rfl, rfl⟩
        · obtain ⟨L1, hL1⟩ : ∃ L1, L1 + 1 = L := ⟨L - 1, by omega⟩
          have hL1i : (L : Int) - 1 = (L1 : Int) := by omega
          have hTi : (2 : Int) * (L1 : Int) = (T0 : Int) := by have := HT0.out; omega
          go_wp2_with fail
          go_meet
          exact ⟨rfl, rfl⟩
      case rest =>
        obtain ⟨rfl, hwc⟩ := hcut
        rw [hwc]
        clear hwc HS0 HT0
        generalize hSS : tells (nums os ys) I T0 = SS at *
        have HSS : Hid (tells (nums os ys) I T0 = SS) := hSS
        clear hSS
        go_wp2_with fail
        go_loopg [11, 12] (I + 1) (fun kx t i wr => ∃ (t' J : Nat) (z : Int), J ≤ I ∧ J < kx ∧ t' ≤ 1280 ∧ t = .int .i64 t' ∧ i = .int .i64 z ∧ z = (J : Int) - 1 ∧ Hid (∃ T vals, T ++ tells (nums os ys) J t' = SS ∧ T.length + J = I ∧ (0 < J → t' ≤ (pu (nums os ys) (J - 1)).length) ∧ LnI lb gl n vals wr ∧ VlI ys T 0 vals ∧ PuI w pb (nums os ys) I wr ∧ Fr (fun k => k = gl) w wr))
        case atStart => exact ⟨T0, I, (M1 : Int), by omega, by omega, by omega, rfl, rfl, by omega, by rw [HSS.out]; exact HJ0⟩
        case round =>
          clear HJ0
          obtain ⟨t, J, z, hJ, hkx2, ht, rfl, rfl, hzz, HJ⟩ := hrel
          by_cases hJ0 : J = 0
          · have hz0 : ¬ (0 : Int) ≤ z := by omega
            have HF2 : Hid (∀ r, P (.returned r) wr) := fun r => by
              obtain ⟨T, vv, e1, e2, e3, e4, e5, e6, e7⟩ := HJ.out
              rw [hJ0] at e1
              simp only [tells, List.append_nil] at e1
              exact HFin.out r T vv wr (by rw [e1]) e4 e5 e7
            clear HJ HFin HH hJ0 hzz
            go_wp2_with fail
            first | exact HF2.out _ | (go_end0; exact HF2.out _)
          · obtain ⟨K, hK⟩ : ∃ K, K + 1 = J := ⟨J - 1, by omega⟩
            have hzK : z = (K : Int) := by omega
            rw [hzK]
            clear hzz hzK z
            have hK15 : (K : Int) < 15 := by omega
            obtain ⟨T, vv, e1, e2, e3, e4, e5, e6, e7⟩ := HJ.out
            have e3 := e3 (by omega)
            rw [show J - 1 = K by omega] at e3
            obtain ⟨g, cc, k1, k2, k3, k4⟩ := e6.at K (by omega)
            obtain ⟨N, hN⟩ : ∃ N, (pu (nums os ys) K).length = N := ⟨_, rfl⟩
            rw [hN] at k1 k2 k3 e3
            obtain ⟨sg, hsg⟩ : ∃ sg, sgl t (pu (nums os ys) K) = sg := ⟨_, rfl⟩
            have hsL : sg ≤ L := by
              have := tells_le (nums os ys) (K + 1) t sg (by rw [tells, hsg]; simp)
              rw [hcl] at this; exact this
            have hst : sg ≤ t := by rw [← hsg]; exact (sgl_le t _).1
            have HSg : Hid (Calls Try.prog 67 #[.slice (some ⟨g, 0, none⟩) t cc] wr fun e w' => e = .returned (.int .i64 sg) ∧ Hid (∃ vv, LnI lb gl n vv w' ∧ VlI ys T 0 vv ∧ PuI w pb (nums os ys) I w' ∧ Fr (fun k => k = gl) w w')) := by
              have hO : OwR RC g (.slice (some ⟨g, 0, none⟩) t cc) ((pu (nums os ys) K).take t) wr := by
                obtain ⟨xs, f1, f2, f3, f4, f5⟩ := k2
                have hx : cc = xs.length := by
                  generalize (pu (nums os ys) K).length = q at f1
                  cases f1; rfl
                refine ⟨xs, ?_, ?_, ?_, f4, f5⟩
                · rw [List.length_take, hN, Nat.min_eq_left e3, hx]
                · rw [List.length_take, hN, Nat.min_eq_left e3]
                  conv => rhs; rw [← f2]
                  rw [List.take_take, hN, Nat.min_eq_left e3]
                · rw [List.length_take, hN]; rw [hN] at f3; omega
              refine (singles_any wr _ _ ((hO.slr rcOk).mono (fun k hk => by have := hO.lt; omega)) (by rw [List.length_take]; omega)).mono ?_
              rintro e w' ⟨rfl, hw⟩
              refine ⟨?_, vv, e4.nw hw, e5, e6.nw hw, e7.trans hw.any⟩
              rw [← hsg]; rfl
            obtain ⟨t2, ht2⟩ : ∃ t2, t2 = 2 * (t - sg) := ⟨_, rfl⟩
            obtain ⟨td, htd⟩ : ∃ td, td + sg = t := ⟨t - sg, by omega⟩
            have htdi : (t : Int) - (sg : Int) = (td : Int) := by omega
            have ht2i : (2 : Int) * (td : Int) = (t2 : Int) := by omega
            have HT2 : Hid ((T ++ [sg]) ++ tells (nums os ys) K t2 = SS ∧ (T ++ [sg]).length + K = I ∧ (0 < K → t2 ≤ (pu (nums os ys) (K - 1)).length)) := by
              refine ⟨?_, by simp; omega, fun hK0 => ?_⟩
              · rw [← e1, ← hK, tells, hsg, ht2, List.append_assoc, List.singleton_append]
              · obtain ⟨K', rfl⟩ : ∃ K', K = K' + 1 := ⟨K - 1, by omega⟩
                have := pu_next (nums os ys) K' t (by rw [hN]; exact e3)
                rw [hsg] at this
                rw [ht2]; exact this
            have ht2b : t2 ≤ 1280 := by
              by_cases hK0 : 0 < K
              · have h1 := HT2.out.2.2 hK0
                have h2 := pu_le (nums os ys) (K - 1)
                rw [hcl] at h2; omega
              · have hK00 : K = 0 := by omega
                have := sgl_zero (nums os ys) t (by rw [hK00] at hN; rw [hN]; exact e3)
                rw [hK00] at hsg
                omega
            have htN : (t : Int) ≤ (N : Int) := by omega
            have htc : (t : Int) ≤ (cc : Int) := by omega
            have hscy : (sg : Int) ≤ (cy : Int) := by omega
            have hTl : T.length ≤ 15 := by omega
            have HTL : Hid (T.length ≤ 15) := hTl
            clear HJ HFin e1 e2 e4 e5 e6 e7 k2 hsg ht2 hTl hJ0
            go_upto_region 14 with (first | (go_at_call 67; (with_reducible refine HSg.out.mono ?_); rintro e w3 ⟨rfl, H3⟩))
            clear HSg
            go_wp2_with fail
            go_loopg [52] sg (fun kx i wr => ∃ (Q : Nat), Q ≤ sg ∧ sg - Q ≤ kx ∧ i = .int .i64 Q ∧ Hid (∃ vv, LnI lb gl n vv wr ∧ VlI ys T Q vv ∧ PuI w pb (nums os ys) I wr ∧ Fr (fun k => k = gl) w wr))
            case atStart => exact ⟨0, by omega, by omega, rfl, H3⟩
            case round =>
              clear H3
              obtain ⟨Q, hQ, hkx3, rfl, HQ⟩ := hrel
              obtain ⟨vv2, f1, f2, f3, f4⟩ := HQ.out
              by_cases hQs : Q < sg
              · have hzQ : (Q : Int) < (sg : Int) := by omega
                have hQL : Q < ys.length := by rw [HL.out]; omega
                have hsy := HH.out.y.kept f4 (fun k hk => .inl hk)
                rw [toI_length, HL.out] at hsy
                obtain ⟨gy, oy, rfl, _, ky⟩ := ri_at hsy Q _ (toI_at ys Q hQL)
                obtain ⟨y, hy⟩ : ∃ y, ys.getD Q 0 = y := ⟨_, rfl⟩
                rw [hy] at ky
                have hyn : y < n := by
                  have := HH.out.ns.lt _ (mem_getD hQL)
                  rw [hy] at this
                  rw [← HH.out.ol]; exact this
                have hv := f2.1 Q hQL
                rw [hy, if_neg (by omega)] at hv
                have hlt2 := lnt_le2 T Q HTL.out
                have HTe : Hid (Calls Try.prog 59 #[.int .i64 y, .pointer (some ⟨lb, 0, none⟩)] wr fun e w' => (∃ r, e = .returned r) ∧ Hid (∃ vv, LnI lb gl n vv w' ∧ VlI ys T (Q + 1) vv ∧ PuI w pb (nums os ys) I w' ∧ Fr (fun k => k = gl) w w')) := by
                  refine (tell2_any f1 y hyn (by omega)).mono ?_
                  rintro e w' ⟨⟨r, rfl⟩, q1, q2⟩
                  refine ⟨⟨r, rfl⟩, _, q1, ?_, f3.kept q2 (fun k hk => by rw [hk]; exact hgl), f4.trans q2⟩
                  have := f2.step HH.out.nd hQL (by rw [hy, f1.len]; exact hyn)
                  rw [hy] at this
                  exact this
                clear HQ f1 f2 f3 f4 hsy hv HH HT2 HTL HSS
                go_wp2_with (first | (go_at_call 59; (with_reducible refine HTe.out.mono ?_); rintro e w4 ⟨⟨r4, rfl⟩, H4⟩))
                go_roundg (sg - (Q + 1))
                case measure => omega
                case rel => exact ⟨Q + 1, by omega, by omega, by first | rfl | (congr 1), H4⟩
              · obtain rfl : Q = sg := by omega
                have hzQ : ¬ (Q : Int) < (Q : Int) := by omega
                have HN2 : Hid (∃ T vals, T ++ tells (nums os ys) K t2 = SS ∧ T.length + K = I ∧ (0 < K → t2 ≤ (pu (nums os ys) (K - 1)).length) ∧ LnI lb gl n vals wr ∧ VlI ys T 0 vals ∧ PuI w pb (nums os ys) I wr ∧ Fr (fun k => k = gl) w wr) := ⟨T ++ [Q], vv2, HT2.out.1, HT2.out.2.1, HT2.out.2.2, f1, f2.next, f3, f4⟩
                clear HQ f1 f2 f3 f4 HH HT2 HTL HSS
                go_wp2_with fail
                go_roundg (K + 1)
                case measure => omega
                case rel => exact ⟨t2, K, _, by omega, by omega, ht2b, by first | rfl | (congr 1), rfl, by first | rfl | omega, HN2⟩
end Go.Proofs.Ytkpkiajehclbhaa
