import Derived.Test.YtenkchhlaphocaaDoorNkJ
import Derived.Test.YtenkchhlaphocaaDoorNjE
namespace Go.Proofs.YtenkchhlaphocaaDoor
open Go.RowKit
set_option linter.unusedVariables false
/-! ### The document's Time (written by tools/mknkk.py) -/
theorem ndA_go (r : Bs) (I : Nat) (h : I ≤ ndA r) (hI : I < r.length) (hd : isD r[I]) : I + 1 ≤ ndA r := by
  rcases Nat.lt_or_ge I (ndA r) with hl | hl
  · exact hl
  · exfalso
    obtain rfl : I = ndA r := by omega
    exact ndA_next r _ _ (List.drop_eq_getElem_cons hI) hd
theorem ndA_end (r : Bs) (I : Nat) (h : I ≤ ndA r) (hd : ∀ hI : I < r.length, ¬ isD r[I]) : I = ndA r := by
  rcases Nat.lt_or_ge I (ndA r) with hl | hl
  · exfalso
    have h2 := ndA_le r
    have hI : I < r.length := by omega
    refine hd hI (ndA_dig r _ ?_)
    rw [List.mem_take_iff_getElem]
    exact ⟨I, by omega, rfl⟩
  · omega
def timW (m : Bool) (p t : Bs) : Int × Nat × Nat :=
  if allD t = false then (0, 0, 120)
  else if (numV p).2 ≠ 0 then (0, 0, (numV p).2)
  else if m = false then ((numV p).1, nanoV t, 0)
  else if nanoV t = 0 then (-((numV p).1 : Int), 0, 0)
  else (-((numV p).1 : Int) - 1, 1000000000 - nanoV t, 0)
theorem tim_w0 (l : Bs) (k : Nat) (hk : k = ndA (restV l)) (h : (restV l).drop k = []) : timV l = timW (minusV l) ((restV l).take k) [] := by
  subst hk
  have e := tim_none l h
  unfold timV timW
  rw [e]
theorem tim_w1 (l : Bs) (k : Nat) (hk : k = ndA (restV l)) (t : Bs) (h : (restV l).drop k = 46#8 :: t) : timV l = timW (minusV l) ((restV l).take k) t := by
  subst hk
  have e := tim_dot l t h
  unfold timV timW
  rw [e]
theorem tim_w2 (l : Bs) (k : Nat) (hk : k = ndA (restV l)) (c : By) (t : Bs) (h : (restV l).drop k = c :: t) (hc : c ≠ 46#8) : timV l = (0, 0, 120) := by
  subst hk
  exact tim_else l c t h hc
theorem strX (r : Bs) (I : Nat) (h : I ≤ r.length) : (str r).extract 0 I = str (r.take I) ∧ (str r).extract I (str r).size = str (r.drop I) := by
  have a := str_pre (r.take I) (r.drop I)
  have b := str_suf (r.take I) (r.drop I)
  rw [List.take_append_drop, List.length_take, Nat.min_eq_left h] at a b
  exact ⟨a, b⟩
theorem allD_no (t : Bs) (c : By) (hm : c ∈ t) (h : ¬ isD c) : allD t = false := by unfold allD; exact decide_eq_false (fun hh => h (hh c hm))
set_option maxHeartbeats 40000000 in
set_option maxRecDepth 100000 in
theorem rtime_any (l : Bs) (hl : l.length ≤ 140737488351232) (w : World) : Calls Tryd.prog 19 #[.string (str l)] w fun e w' => e = .returned (tmV l) ∧ Nw w w' := by
  obtain ⟨P, hP⟩ : ∃ P : Ending → World → Prop, P = fun e w' => e = .returned (tmV l) ∧ Nw w w' := ⟨_, rfl⟩
  rw [← hP]
  have HF : Hid (∀ (x : Int × Nat × Nat) V, timV l = x → Nw w V → P (.returned (.tuple #[.int .i64 x.1, .int .i32 (x.2.1 : Nat), .int .i64 (x.2.2 : Nat)])) V) := fun x V hx hV => by rw [hP]; unfold tmV; rw [hx]; exact ⟨rfl, hV⟩
  clear hP
  cases hl0 : l with
  | nil =>
    obtain ⟨r, hr⟩ : ∃ r, restV l = r := ⟨_, rfl⟩
    have hm : minusV l = false := by rw [hl0]; rfl
    have hrl : r = [] := by rw [← hr, hl0]; rfl
    have hrlen : r.length ≤ 140737488351232 := by rw [hrl]; simp
    have HT0 : Hid (∀ k, k = ndA r → r.drop k = [] → timV l = timW false (r.take k) []) := fun k hk h => by
      have := tim_w0 l k (by rw [hr]; exact hk) (by rw [hr]; exact h)
      rw [hr, hm] at this
      exact this
    have HT1 : Hid (∀ k, k = ndA r → ∀ t, r.drop k = 46#8 :: t → timV l = timW false (r.take k) t) := fun k hk t h => by
      have := tim_w1 l k (by rw [hr]; exact hk) t (by rw [hr]; exact h)
      rw [hr, hm] at this
      exact this
    have HT2 : Hid (∀ k, k = ndA r → ∀ c t, r.drop k = c :: t → c ≠ 46#8 → timV l = (0, 0, 120)) := fun k hk c t h hc => tim_w2 l k (by rw [hr]; exact hk) c t (by rw [hr]; exact h) hc
    have HX : Hid (∀ I, I ≤ r.length → (str r).extract 0 I = str (r.take I) ∧ (str r).extract I (str r).size = str (r.drop I)) := fun I h => strX r I h
    have hsz := str_size r
    have hndl := ndA_le r
    have hget : Hid (∀ j (h : j < (str r).size) (h' : j < r.length), ((str r)[j]'h).toNat = (r[j]'h').toNat) := fun j h h' => str_get r j h
    have hs0 : (str r).size = 0 := by rw [hrl]; rfl
    rw [← hrl]
    clear hm hr hrl hl0
    generalize str r = s at *
    go_enter Tryd.func19, Tryd.ntmps19
    go_upto_region 5 with fail
    try rw [hcut]
    try rw [hq0]
    go_loopg [6] r.length (fun kx v wr => ∃ I : Nat, I ≤ ndA r ∧ r.length - I ≤ kx ∧ v = .int .i64 I ∧ wr = w)
    case atStart => exact ⟨0, by omega, by omega, rfl, rfl⟩
    case round =>
      obtain ⟨I, hI, hkx, rfl, hw⟩ := hrel
      have hw' := hw.symm
      subst hw'
      clear hw
      by_cases hlt : I < r.length
      · exfalso; omega
      · have hk := ndA_end r I hI (fun h => absurd h hlt)
        obtain ⟨hxa, hxb⟩ := HX.out I (by have := ndA_le r; omega)
        have hpl : (r.take I).length ≤ 140737488351232 := by rw [List.length_take]; omega
        have hdr : r.drop I = [] := List.drop_of_length_le (by omega)
        have HT := tHid (HT0.out I hk hdr)
        obtain ⟨p, hp⟩ : ∃ p, r.take I = p := ⟨_, rfl⟩
        obtain ⟨t, ht⟩ : ∃ t : Bs, [] = t := ⟨_, rfl⟩
        rw [hdr] at hxb
        rw [hp] at hxa HT hpl
        have hqs0 : (str []).size = 0 := rfl
        have hqs : (str []).size = t.length + 0 := by rw [← ht]; rfl
        have htl : t.length = 0 := by rw [← ht]; rfl
        have b0 := str_emp []
        have b1 := str_emp2 []
        rw [decide_eq_true rfl] at b0 b1
        have hga : Hid (∀ j (h : j + 1 < (str []).size) (h' : j < t.length), ((str [])[j + 1]'h).toNat = (t[j]'h').toNat) := fun j h h' => by omega
        rw [ht] at HT
        have HNU := tHid (fun V => rnum_any p hpl V)
        have z5 : (I : Int) ≤ (s.size : Int) := by omega
        have hxb2 := hxb
        rw [hsz] at hxb2
        clear hget HX HT0 HT1 HT2 hdr hp ht hk
        generalize str [] = sq at *
        generalize str p = sp at *
        go_upto_region 7 with fail
        go_quiet (fail)
        try rw [hxa]
        try rw [hxb2]
        go_upto_region 12 with fail
        go_loopg [9, 10] 9 (fun kx v i wr => ∃ (J N : Nat), J ≤ 9 ∧ 9 - J ≤ kx ∧ i = .int .i64 ((J + 1 : Nat) : Int) ∧ v = .int .i32 N ∧ N < 1000000000 ∧ Hid (Nw w wr) ∧ Hid (N < 10 ^ J ∧ (allD t = true → N = val 0 ((t ++ List.replicate 9 48#8).take J))))
        case atStart => exact ⟨0, 0, by omega, by omega, rfl, rfl, by omega, (Fr.refl _ _).drewN _, by decide, fun _ => rfl⟩
        case round =>
          obtain ⟨J, N, hJ, hkj, rfl, rfl, hN, HN, HV⟩ := hrel
          obtain ⟨hp, hv⟩ := HV.out
          by_cases hj9 : J < 9
          · have hpa := pad_at t J hj9
            have hps : 10 ^ (J + 1) = 10 * 10 ^ J := by rw [Nat.pow_succ, Nat.mul_comm]
            have hp9 : 10 ^ (J + 1) ≤ 10 ^ 9 := Nat.pow_le_pow_right (by decide) (by omega)
            have hp9' : (10 : Nat) ^ 9 = 1000000000 := rfl
            obtain ⟨A, hA⟩ : ∃ A, J + 1 = A := ⟨_, rfl⟩
            obtain ⟨T, hT⟩ : ∃ T, N * 10 = T := ⟨_, rfl⟩
            have hTi : (10 : Int) * (N : Int) = (T : Int) := by omega
            have hT9 : T < 1000000000 := by omega
            have hA9 : (A : Int) ≤ 9 := by omega
            by_cases hjt : J < t.length
            · exfalso; omega
            · rw [dif_neg hjt] at hpa
              have HV2 : Hid (T < 10 ^ (J + 1) ∧ (allD t = true → T = val 0 ((t ++ List.replicate 9 48#8).take (J + 1)))) := ⟨by omega, fun h => by rw [hpa, ← hv h]; omega⟩
              have hjs' : decide ((A : Int) < (sq.size : Int)) = false := decide_eq_false (by omega)
              clear HF HT HV hga hv hp hpa hps hp9 hp9' hT HNU
              rw [hA]
              go_wp2_with fail
              go_roundg (9 - (J + 1))
              case measure => omega
              case rel => exact ⟨J + 1, T, by omega, by omega, by first | rfl | (congr 1; omega), rfl, hT9, HN, by first | exact HV2 | (rw [hA]; exact HV2)⟩
          · obtain rfl : J = 9 := by omega
            have HNA : Hid (allD t = true → N = nanoV t) := hv
            clear HV hv hp hkj hj9
            go_upto_region 19 with fail
            go_loopg [12] t.length (fun kx v wr => ∃ J : Nat, J ≤ t.length ∧ t.length - J ≤ kx ∧ v = .int .i64 ((J + 1 : Nat) : Int) ∧ Hid (Nw w wr) ∧ Hid (∀ c ∈ t.take J, isD c))
            case atStart => exact ⟨0, by omega, by omega, rfl, HN, by show ∀ c ∈ _, _; simp⟩
            case round =>
              obtain ⟨J, hJ, hkj, rfl, HN, HI⟩ := hrel
              obtain ⟨A, hA⟩ : ∃ A, J + 1 = A := ⟨_, rfl⟩
              by_cases hjt : J < t.length
              · exfalso; omega
              · have hall := HI.out
                rw [List.take_of_length_le (by omega)] at hall
                have hA1 := (allD_iff t).2 hall
                have hna := HNA.out hA1
                have ht := HT.out
                have hnl := numV_lt p
                unfold timW at ht
                rw [hA1, if_neg (by decide), ← hna] at ht
                have hjs' : decide ((A : Int) < (sq.size : Int)) = false := decide_eq_false (by omega)
                clear HT hga HI HNA hall hA1 hna
                rw [hA]
                generalize numV p = Q at *
                obtain ⟨U, E⟩ := Q
                simp only at ht hnl HNU
                by_cases he : E ≠ 0
                · rw [if_pos he] at ht
                  have he0 : ¬ ((E : Int) = 0) := by omega
                  have HF2 : Hid (P (.returned (.tuple #[.int .i64 0, .int .i32 0, .int .i64 (E : Nat)])) wr) := HF.out _ _ ht HN.out
                  clear HF ht
                  go_wp2_with (first | (go_at_call 17; with_reducible refine (HNU.out _).mono ?_; rintro e w1 ⟨rfl, rfl⟩))
                  first | exact HF2.out | (go_ret; exact HF2.out)
                · have hE0 : E = 0 := by omega
                  subst hE0
                  rw [if_neg he] at ht
                  clear he
                  have HNU2 : Hid (∀ V, Calls Tryd.prog 17 #[.string sp] V fun e w' => e = .returned (.tuple #[.int .i64 (U : Nat), .int .i64 0]) ∧ V = w') := HNU
                  clear HNU
                  first | rw [if_pos trivial] at ht | rw [if_pos rfl] at ht
                  have HF2 : Hid (P (.returned (.tuple #[.int .i64 (U : Nat), .int .i32 (N : Nat), .int .i64 0])) wr) := HF.out _ _ ht HN.out
                  clear HF ht
                  go_wp2_with (first | (go_at_call 17; with_reducible refine (HNU2.out _).mono ?_; rintro e w1 ⟨rfl, rfl⟩))
                  first | exact HF2.out | (go_ret; exact HF2.out)
  | cons c0 l0 =>
    have hq0 : ((c0.toNat : Int) == 45) = decide (c0 = 45#8) := nth_eq c0 45 (by decide)
    by_cases hc0 : c0 = 45#8
    · rw [decide_eq_true hc0] at hq0
      obtain ⟨r, hr⟩ : ∃ r, restV l = r := ⟨_, rfl⟩
      have hm : minusV l = true := by rw [hl0, hc0]; unfold minusV; simp
      have hrl : r = l0 := by rw [← hr]; unfold restV; rw [hm, hl0]; rfl
      subst hrl
      have hrlen : r.length ≤ 140737488351232 := by rw [hl0, List.length_cons] at hl; omega
      have HT0 : Hid (∀ k, k = ndA r → r.drop k = [] → timV l = timW true (r.take k) []) := fun k hk h => by
        have := tim_w0 l k (by rw [hr]; exact hk) (by rw [hr]; exact h)
        rw [hr, hm] at this
        exact this
      have HT1 : Hid (∀ k, k = ndA r → ∀ t, r.drop k = 46#8 :: t → timV l = timW true (r.take k) t) := fun k hk t h => by
        have := tim_w1 l k (by rw [hr]; exact hk) t (by rw [hr]; exact h)
        rw [hr, hm] at this
        exact this
      have HT2 : Hid (∀ k, k = ndA r → ∀ c t, r.drop k = c :: t → c ≠ 46#8 → timV l = (0, 0, 120)) := fun k hk c t h hc => tim_w2 l k (by rw [hr]; exact hk) c t (by rw [hr]; exact h) hc
      have HX : Hid (∀ I, I ≤ r.length → (str r).extract 0 I = str (r.take I) ∧ (str r).extract I (str r).size = str (r.drop I)) := fun I h => strX r I h
      have hsz := str_size r
      have hndl := ndA_le r
      have hget : Hid (∀ j (h : j < (str r).size) (h' : j < r.length), ((str r)[j]'h).toNat = (r[j]'h').toNat) := fun j h h' => str_get r j h
      have hs0 := str_size (c0 :: r)
      have hc0g : ((str (c0 :: r))[0]'(by rw [hs0]; exact Nat.succ_pos _)).toNat = c0.toNat := str_get (c0 :: r) 0 (by rw [hs0]; exact Nat.succ_pos _)
      have hcut := str_tail c0 r
      rw [List.length_cons] at hs0
      clear hm hr hl0 hc0
      generalize str r = s at *
      generalize str (c0 :: r) = sl at *
      generalize c0.toNat = y0 at *
      have z1 : (0 : Int) < (sl.size : Int) := by omega
      have z2 : (1 : Int) ≤ (sl.size : Int) := by omega
      have z3 : sl.size ≤ 140737488351233 := by omega
      rw [hs0] at hcut
      go_enter Tryd.func19, Tryd.ntmps19
      go_upto_region 5 with fail
      try rw [hcut]
      try rw [hq0]
      go_loopg [6] r.length (fun kx v wr => ∃ I : Nat, I ≤ ndA r ∧ r.length - I ≤ kx ∧ v = .int .i64 I ∧ wr = w)
      case atStart => exact ⟨0, by omega, by omega, rfl, rfl⟩
      case round =>
        obtain ⟨I, hI, hkx, rfl, hw⟩ := hrel
        have hw' := hw.symm
        subst hw'
        clear hw
        by_cases hlt : I < r.length
        · have hlt' : I < s.size := by omega
          have hg := hget.out I hlt' hlt
          have HDG := tHid (rdig_any r[I].toNat w)
          by_cases hx : isD r[I]
          · have hI2 := ndA_go r I hI hlt hx
            unfold isD at hx
            rw [decide_eq_true hx] at HDG
            clear HF hx hget HX HT0 HT1 HT2
            generalize r[I].toNat = x at *
            go_wp2_with (first | (go_at_call 39; with_reducible refine HDG.out.mono ?_; rintro e w1 ⟨rfl, rfl⟩))
            go_roundg (r.length - (I + 1))
            case measure => omega
            case rel => exact ⟨I + 1, hI2, by omega, by first | rfl | (congr 1), rfl⟩
          · have hk := ndA_end r I hI (fun _ => hx)
            obtain ⟨hxa, hxb⟩ := HX.out I (by omega)
            have hql : (r.drop I).length = r.length - I := List.length_drop
            have hpl : (r.take I).length ≤ 140737488351232 := by rw [List.length_take]; omega
            have hdr : r.drop I = r[I] :: r.drop (I + 1) := List.drop_eq_getElem_cons hlt
            by_cases hdot : r[I] = 46#8
            · rw [hdot] at hdr
              have HT := tHid (HT1.out I hk _ hdr)
              obtain ⟨p, hp⟩ : ∃ p, r.take I = p := ⟨_, rfl⟩
              obtain ⟨t, ht⟩ : ∃ t, r.drop (I + 1) = t := ⟨_, rfl⟩
              rw [ht] at hdr HT
              rw [hdr] at hxb hql
              rw [hp] at hxa HT hpl
              have hqs := str_size (46#8 :: t)
              have hgq : Hid (∀ j (h : j < (str (46#8 :: t)).size) (h' : j < t.length + 1), ((str (46#8 :: t))[j]'h).toNat = ((46#8 :: t)[j]'h').toNat) := fun j h h' => str_get (46#8 :: t) j h
              have b0 := str_emp (46#8 :: t)
              have b1 := str_emp2 (46#8 :: t)
              rw [decide_eq_false (List.cons_ne_nil _ _)] at b0 b1
              have hga : Hid (∀ j (h : j + 1 < (str (46#8 :: t)).size) (h' : j < t.length), ((str (46#8 :: t))[j + 1]'h).toNat = (t[j]'h').toNat) := fun j h h' => str_get (46#8 :: t) (j + 1) h
              rw [List.length_cons] at hqs hql
              unfold isD at hx
              rw [decide_eq_false hx] at HDG
              have HNU := tHid (fun V => rnum_any p hpl V)
              have hlt0 : 0 < (str (46#8 :: t)).size := by rw [hqs]; exact Nat.succ_pos _
              have hg0 : ((str (46#8 :: t))[0]'hlt0).toNat = 46 := by rw [str_get]; rfl
              have hxb2 := hxb
              rw [hsz] at hxb2
              have z5 : (I : Int) ≤ (s.size : Int) := by omega
              clear hx hget HX HT0 HT1 HT2 hdr hgq hp ht hdot hk
              generalize str (46#8 :: t) = sq at *
              generalize str p = sp at *
              generalize r[I].toNat = x at *
              have z0 : (1 : Int) ≤ (sq.size : Int) := by omega
              go_upto_region 7 with (first | (go_at_call 39; with_reducible refine HDG.out.mono ?_; rintro e w1 ⟨rfl, rfl⟩))
              go_quiet (fail)
              try rw [hxa]
              try rw [hxb2]
              go_upto_region 12 with fail
              go_loopg [9, 10] 9 (fun kx v i wr => ∃ (J N : Nat), J ≤ 9 ∧ 9 - J ≤ kx ∧ i = .int .i64 ((J + 1 : Nat) : Int) ∧ v = .int .i32 N ∧ N < 1000000000 ∧ Hid (Nw w wr) ∧ Hid (N < 10 ^ J ∧ (allD t = true → N = val 0 ((t ++ List.replicate 9 48#8).take J))))
              case atStart => exact ⟨0, 0, by omega, by omega, rfl, rfl, by omega, (Fr.refl _ _).drewN _, by decide, fun _ => rfl⟩
              case round =>
                obtain ⟨J, N, hJ, hkj, rfl, rfl, hN, HN, HV⟩ := hrel
                obtain ⟨hp, hv⟩ := HV.out
                by_cases hj9 : J < 9
                · have hpa := pad_at t J hj9
                  have hps : 10 ^ (J + 1) = 10 * 10 ^ J := by rw [Nat.pow_succ, Nat.mul_comm]
                  have hp9 : 10 ^ (J + 1) ≤ 10 ^ 9 := Nat.pow_le_pow_right (by decide) (by omega)
                  have hp9' : (10 : Nat) ^ 9 = 1000000000 := rfl
                  obtain ⟨A, hA⟩ : ∃ A, J + 1 = A := ⟨_, rfl⟩
                  obtain ⟨T, hT⟩ : ∃ T, N * 10 = T := ⟨_, rfl⟩
                  have hTi : (10 : Int) * (N : Int) = (T : Int) := by omega
                  have hT9 : T < 1000000000 := by omega
                  have hA9 : (A : Int) ≤ 9 := by omega
                  by_cases hjt : J < t.length
                  · have hjs : J + 1 < sq.size := by omega
                    have hg := hga.out J hjs hjt
                    have HDG2 := tHid (rdig_any (t[J]'hjt).toNat wr)
                    rw [dif_pos hjt] at hpa
                    by_cases hx : isD (t[J]'hjt)
                    · unfold isD at hx
                      rw [decide_eq_true hx] at HDG2
                      obtain ⟨y, hy⟩ : ∃ y, (t[J]'hjt).toNat = y := ⟨_, rfl⟩
                      rw [hy] at hg hx hpa HDG2
                      obtain ⟨z, hz⟩ : ∃ z, y - 48 = z := ⟨_, rfl⟩
                      have hyz : (y : Int) - 48 = (z : Int) := by omega
                      have hz9 : z ≤ 9 := by omega
                      rw [hz] at hpa
                      obtain ⟨M, hM⟩ : ∃ M, T + z = M := ⟨_, rfl⟩
                      have hMi : (T : Int) + (z : Int) = (M : Int) := by omega
                      have hM9 : M < 1000000000 := by omega
                      have HV2 : Hid (M < 10 ^ (J + 1) ∧ (allD t = true → M = val 0 ((t ++ List.replicate 9 48#8).take (J + 1)))) := ⟨by omega, fun h => by rw [hpa, ← hv h]; omega⟩
                      have hjs' : A < sq.size := by omega
                      have hg' : (sq[A]'hjs').toNat = y := by subst hA; exact hg
                      clear HF HT HV hga hv hp hpa hps hp9 hp9' hz hx hM hT hg HNU
                      rw [hA]
                      go_wp2_with (first | (go_at_call 39; with_reducible refine HDG2.out.mono ?_; rintro e w1 ⟨rfl, rfl⟩))
                      go_roundg (9 - (J + 1))
                      case measure => omega
                      case rel => exact ⟨J + 1, M, by omega, by omega, by first | rfl | (congr 1; omega), rfl, hM9, HN, by first | exact HV2 | (rw [hA]; exact HV2)⟩
                    · have HV2 : Hid (T < 10 ^ (J + 1) ∧ (allD t = true → T = val 0 ((t ++ List.replicate 9 48#8).take (J + 1)))) := ⟨by omega, fun h => by rw [allD_no t _ (List.getElem_mem hjt) hx] at h; cases h⟩
                      unfold isD at hx
                      rw [decide_eq_false hx] at HDG2
                      obtain ⟨y, hy⟩ : ∃ y, (t[J]'hjt).toNat = y := ⟨_, rfl⟩
                      rw [hy] at hg hx hpa HDG2
                      have hjs' : A < sq.size := by omega
                      have hg' : (sq[A]'hjs').toNat = y := by subst hA; exact hg
                      clear HF HT HV hga hv hp hpa hps hp9 hp9' hx hT hg HNU
                      rw [hA]
                      go_wp2_with (first | (go_at_call 39; with_reducible refine HDG2.out.mono ?_; rintro e w1 ⟨rfl, rfl⟩))
                      go_roundg (9 - (J + 1))
                      case measure => omega
                      case rel => exact ⟨J + 1, T, by omega, by omega, by first | rfl | (congr 1; omega), rfl, hT9, HN, by first | exact HV2 | (rw [hA]; exact HV2)⟩
                  · rw [dif_neg hjt] at hpa
                    have HV2 : Hid (T < 10 ^ (J + 1) ∧ (allD t = true → T = val 0 ((t ++ List.replicate 9 48#8).take (J + 1)))) := ⟨by omega, fun h => by rw [hpa, ← hv h]; omega⟩
                    have hjs' : decide ((A : Int) < (sq.size : Int)) = false := decide_eq_false (by omega)
                    clear HF HT HV hga hv hp hpa hps hp9 hp9' hT HNU
                    rw [hA]
                    go_wp2_with fail
                    go_roundg (9 - (J + 1))
                    case measure => omega
                    case rel => exact ⟨J + 1, T, by omega, by omega, by first | rfl | (congr 1; omega), rfl, hT9, HN, by first | exact HV2 | (rw [hA]; exact HV2)⟩
                · obtain rfl : J = 9 := by omega
                  have HNA : Hid (allD t = true → N = nanoV t) := hv
                  clear HV hv hp hkj hj9
                  go_upto_region 19 with fail
                  go_loopg [12] t.length (fun kx v wr => ∃ J : Nat, J ≤ t.length ∧ t.length - J ≤ kx ∧ v = .int .i64 ((J + 1 : Nat) : Int) ∧ Hid (Nw w wr) ∧ Hid (∀ c ∈ t.take J, isD c))
                  case atStart => exact ⟨0, by omega, by omega, rfl, HN, by show ∀ c ∈ _, _; simp⟩
                  case round =>
                    obtain ⟨J, hJ, hkj, rfl, HN, HI⟩ := hrel
                    obtain ⟨A, hA⟩ : ∃ A, J + 1 = A := ⟨_, rfl⟩
                    by_cases hjt : J < t.length
                    · have hjs : J + 1 < sq.size := by omega
                      have hg := hga.out J hjs hjt
                      have hjs' : A < sq.size := by omega
                      have hg' : (sq[A]'hjs').toNat = (t[J]'hjt).toNat := by subst hA; exact hg
                      have HDG2 := tHid (rdig_any (t[J]'hjt).toNat wr)
                      by_cases hx : isD (t[J]'hjt)
                      · have HI2 : Hid (∀ c ∈ t.take (J + 1), isD c) := take_all t J hjt isD HI.out hx
                        unfold isD at hx
                        rw [decide_eq_true hx] at HDG2
                        clear HF HT hga hx hg HNU HI HNA
                        rw [hA]
                        generalize (t[J]'hjt).toNat = y at *
                        go_wp2_with (first | (go_at_call 39; with_reducible refine HDG2.out.mono ?_; rintro e w1 ⟨rfl, rfl⟩))
                        go_roundg (t.length - (J + 1))
                        case measure => omega
                        case rel => exact ⟨J + 1, by omega, by omega, by first | rfl | (congr 1; omega), HN, by first | exact HI2 | (rw [hA]; exact HI2)⟩
                      · have ht := HT.out
                        unfold timW at ht
                        rw [if_pos (allD_no t _ (List.getElem_mem hjt) hx)] at ht
                        have HF2 : Hid (P (.returned (.tuple #[.int .i64 0, .int .i32 0, .int .i64 120])) wr) := HF.out _ _ ht HN.out
                        unfold isD at hx
                        rw [decide_eq_false hx] at HDG2
                        clear HF HT hga hx hg HNU HI HNA ht
                        rw [hA]
                        generalize (t[J]'hjt).toNat = y at *
                        go_wp2_with (first | (go_at_call 39; with_reducible refine HDG2.out.mono ?_; rintro e w1 ⟨rfl, rfl⟩))
                        first | exact HF2.out | (go_ret; exact HF2.out)
                    · have hall := HI.out
                      rw [List.take_of_length_le (by omega)] at hall
                      have hA1 := (allD_iff t).2 hall
                      have hna := HNA.out hA1
                      have ht := HT.out
                      have hnl := numV_lt p
                      unfold timW at ht
                      rw [hA1, if_neg (by decide), ← hna] at ht
                      have hjs' : decide ((A : Int) < (sq.size : Int)) = false := decide_eq_false (by omega)
                      clear HT hga HI HNA hall hA1 hna
                      rw [hA]
                      generalize numV p = Q at *
                      obtain ⟨U, E⟩ := Q
                      simp only at ht hnl HNU
                      by_cases he : E ≠ 0
                      · rw [if_pos he] at ht
                        have he0 : ¬ ((E : Int) = 0) := by omega
                        have HF2 : Hid (P (.returned (.tuple #[.int .i64 0, .int .i32 0, .int .i64 (E : Nat)])) wr) := HF.out _ _ ht HN.out
                        clear HF ht
                        go_wp2_with (first | (go_at_call 17; with_reducible refine (HNU.out _).mono ?_; rintro e w1 ⟨rfl, rfl⟩))
                        first | exact HF2.out | (go_ret; exact HF2.out)
                      · have hE0 : E = 0 := by omega
                        subst hE0
                        rw [if_neg he] at ht
                        clear he
                        have HNU2 : Hid (∀ V, Calls Tryd.prog 17 #[.string sp] V fun e w' => e = .returned (.tuple #[.int .i64 (U : Nat), .int .i64 0]) ∧ V = w') := HNU
                        clear HNU
                        rw [if_neg (by decide)] at ht
                        by_cases hk0 : N = 0
                        · rw [if_pos hk0] at ht
                          subst hk0
                          have HF2 : Hid (P (.returned (.tuple #[.int .i64 (-(U : Int)), .int .i32 0, .int .i64 0])) wr) := HF.out _ _ ht HN.out
                          clear HF ht
                          go_wp2_with (first | (go_at_call 17; with_reducible refine (HNU2.out _).mono ?_; rintro e w1 ⟨rfl, rfl⟩))
                          first | exact HF2.out | (go_ret; exact HF2.out)
                        · rw [if_neg hk0] at ht
                          have hk1 : (0 : Int) < (N : Int) := by omega
                          obtain ⟨M, hM⟩ : ∃ M, 1000000000 - N = M := ⟨_, rfl⟩
                          have hMi : (1000000000 : Int) - (N : Int) = (M : Int) := by omega
                          have hM9 : M ≤ 1000000000 := by omega
                          rw [hM] at ht
                          have HF2 : Hid (P (.returned (.tuple #[.int .i64 (-(U : Int) - 1), .int .i32 (M : Nat), .int .i64 0])) wr) := HF.out _ _ ht HN.out
                          clear HF ht hM
                          go_wp2_with (first | (go_at_call 17; with_reducible refine (HNU2.out _).mono ?_; rintro e w1 ⟨rfl, rfl⟩))
                          first | exact HF2.out | (go_ret; exact HF2.out)
            · have htv := HT2.out I hk _ _ hdr hdot
              have hqs := str_size (r[I] :: r.drop (I + 1))
              have hlt0 : 0 < (str (r[I] :: r.drop (I + 1))).size := by rw [hqs]; exact Nat.succ_pos _
              have hg0 : ((str (r[I] :: r.drop (I + 1)))[0]'hlt0).toNat = r[I].toNat := by rw [str_get]; rfl
              have b0 := str_emp (r[I] :: r.drop (I + 1))
              have b1 := str_emp2 (r[I] :: r.drop (I + 1))
              rw [decide_eq_false (List.cons_ne_nil _ _)] at b0 b1
              have hq : ((r[I].toNat : Int) == 46) = decide (r[I] = 46#8) := nth_eq r[I] 46 (by decide)
              rw [decide_eq_false hdot] at hq
              rw [hdr] at hxb hql
              rw [List.length_cons] at hqs hql
              unfold isD at hx
              rw [decide_eq_false hx] at HDG
              have HF2 : Hid (∀ V, Nw w V → P (.returned (.tuple #[.int .i64 0, .int .i32 0, .int .i64 120])) V) := fun V hV => HF.out _ V htv hV
              have hxb2 := hxb
              rw [hsz] at hxb2
              have z5 : (I : Int) ≤ (s.size : Int) := by omega
              clear hx hget HX HT0 HT1 HT2 hdr hdot htv HF hk
              generalize str (r[I] :: r.drop (I + 1)) = sq at *
              generalize str (r.take I) = sp at *
              generalize r[I].toNat = x at *
              have z0 : (1 : Int) ≤ (sq.size : Int) := by omega
              go_upto_region 7 with (first | (go_at_call 39; with_reducible refine HDG.out.mono ?_; rintro e w1 ⟨rfl, rfl⟩))
              go_quiet (fail)
              try rw [hxa]
              try rw [hxb2]
              go_wp2_with fail
              first | exact HF2.out _ ((Fr.refl _ _).drewN _) | (go_ret; exact HF2.out _ ((Fr.refl _ _).drewN _))
        · have hk := ndA_end r I hI (fun h => absurd h hlt)
          obtain ⟨hxa, hxb⟩ := HX.out I (by have := ndA_le r; omega)
          have hpl : (r.take I).length ≤ 140737488351232 := by rw [List.length_take]; omega
          have hdr : r.drop I = [] := List.drop_of_length_le (by omega)
          have HT := tHid (HT0.out I hk hdr)
          obtain ⟨p, hp⟩ : ∃ p, r.take I = p := ⟨_, rfl⟩
          obtain ⟨t, ht⟩ : ∃ t : Bs, [] = t := ⟨_, rfl⟩
          rw [hdr] at hxb
          rw [hp] at hxa HT hpl
          have hqs0 : (str []).size = 0 := rfl
          have hqs : (str []).size = t.length + 0 := by rw [← ht]; rfl
          have htl : t.length = 0 := by rw [← ht]; rfl
          have b0 := str_emp []
          have b1 := str_emp2 []
          rw [decide_eq_true rfl] at b0 b1
          have hga : Hid (∀ j (h : j + 1 < (str []).size) (h' : j < t.length), ((str [])[j + 1]'h).toNat = (t[j]'h').toNat) := fun j h h' => by omega
          rw [ht] at HT
          have HNU := tHid (fun V => rnum_any p hpl V)
          have z5 : (I : Int) ≤ (s.size : Int) := by omega
          have hxb2 := hxb
          rw [hsz] at hxb2
          clear hget HX HT0 HT1 HT2 hdr hp ht hk
          generalize str [] = sq at *
          generalize str p = sp at *
          go_upto_region 7 with fail
          go_quiet (fail)
          try rw [hxa]
          try rw [hxb2]
          go_upto_region 12 with fail
          go_loopg [9, 10] 9 (fun kx v i wr => ∃ (J N : Nat), J ≤ 9 ∧ 9 - J ≤ kx ∧ i = .int .i64 ((J + 1 : Nat) : Int) ∧ v = .int .i32 N ∧ N < 1000000000 ∧ Hid (Nw w wr) ∧ Hid (N < 10 ^ J ∧ (allD t = true → N = val 0 ((t ++ List.replicate 9 48#8).take J))))
          case atStart => exact ⟨0, 0, by omega, by omega, rfl, rfl, by omega, (Fr.refl _ _).drewN _, by decide, fun _ => rfl⟩
          case round =>
            obtain ⟨J, N, hJ, hkj, rfl, rfl, hN, HN, HV⟩ := hrel
            obtain ⟨hp, hv⟩ := HV.out
            by_cases hj9 : J < 9
            · have hpa := pad_at t J hj9
              have hps : 10 ^ (J + 1) = 10 * 10 ^ J := by rw [Nat.pow_succ, Nat.mul_comm]
              have hp9 : 10 ^ (J + 1) ≤ 10 ^ 9 := Nat.pow_le_pow_right (by decide) (by omega)
              have hp9' : (10 : Nat) ^ 9 = 1000000000 := rfl
              obtain ⟨A, hA⟩ : ∃ A, J + 1 = A := ⟨_, rfl⟩
              obtain ⟨T, hT⟩ : ∃ T, N * 10 = T := ⟨_, rfl⟩
              have hTi : (10 : Int) * (N : Int) = (T : Int) := by omega
              have hT9 : T < 1000000000 := by omega
              have hA9 : (A : Int) ≤ 9 := by omega
              by_cases hjt : J < t.length
              · exfalso; omega
              · rw [dif_neg hjt] at hpa
                have HV2 : Hid (T < 10 ^ (J + 1) ∧ (allD t = true → T = val 0 ((t ++ List.replicate 9 48#8).take (J + 1)))) := ⟨by omega, fun h => by rw [hpa, ← hv h]; omega⟩
                have hjs' : decide ((A : Int) < (sq.size : Int)) = false := decide_eq_false (by omega)
                clear HF HT HV hga hv hp hpa hps hp9 hp9' hT HNU
                rw [hA]
                go_wp2_with fail
                go_roundg (9 - (J + 1))
                case measure => omega
                case rel => exact ⟨J + 1, T, by omega, by omega, by first | rfl | (congr 1; omega), rfl, hT9, HN, by first | exact HV2 | (rw [hA]; exact HV2)⟩
            · obtain rfl : J = 9 := by omega
              have HNA : Hid (allD t = true → N = nanoV t) := hv
              clear HV hv hp hkj hj9
              go_upto_region 19 with fail
              go_loopg [12] t.length (fun kx v wr => ∃ J : Nat, J ≤ t.length ∧ t.length - J ≤ kx ∧ v = .int .i64 ((J + 1 : Nat) : Int) ∧ Hid (Nw w wr) ∧ Hid (∀ c ∈ t.take J, isD c))
              case atStart => exact ⟨0, by omega, by omega, rfl, HN, by show ∀ c ∈ _, _; simp⟩
              case round =>
                obtain ⟨J, hJ, hkj, rfl, HN, HI⟩ := hrel
                obtain ⟨A, hA⟩ : ∃ A, J + 1 = A := ⟨_, rfl⟩
                by_cases hjt : J < t.length
                · exfalso; omega
                · have hall := HI.out
                  rw [List.take_of_length_le (by omega)] at hall
                  have hA1 := (allD_iff t).2 hall
                  have hna := HNA.out hA1
                  have ht := HT.out
                  have hnl := numV_lt p
                  unfold timW at ht
                  rw [hA1, if_neg (by decide), ← hna] at ht
                  have hjs' : decide ((A : Int) < (sq.size : Int)) = false := decide_eq_false (by omega)
                  clear HT hga HI HNA hall hA1 hna
                  rw [hA]
                  generalize numV p = Q at *
                  obtain ⟨U, E⟩ := Q
                  simp only at ht hnl HNU
                  by_cases he : E ≠ 0
                  · rw [if_pos he] at ht
                    have he0 : ¬ ((E : Int) = 0) := by omega
                    have HF2 : Hid (P (.returned (.tuple #[.int .i64 0, .int .i32 0, .int .i64 (E : Nat)])) wr) := HF.out _ _ ht HN.out
                    clear HF ht
                    go_wp2_with (first | (go_at_call 17; with_reducible refine (HNU.out _).mono ?_; rintro e w1 ⟨rfl, rfl⟩))
                    first | exact HF2.out | (go_ret; exact HF2.out)
                  · have hE0 : E = 0 := by omega
                    subst hE0
                    rw [if_neg he] at ht
                    clear he
                    have HNU2 : Hid (∀ V, Calls Tryd.prog 17 #[.string sp] V fun e w' => e = .returned (.tuple #[.int .i64 (U : Nat), .int .i64 0]) ∧ V = w') := HNU
                    clear HNU
                    rw [if_neg (by decide)] at ht
                    by_cases hk0 : N = 0
                    · rw [if_pos hk0] at ht
                      subst hk0
                      have HF2 : Hid (P (.returned (.tuple #[.int .i64 (-(U : Int)), .int .i32 0, .int .i64 0])) wr) := HF.out _ _ ht HN.out
                      clear HF ht
                      go_wp2_with (first | (go_at_call 17; with_reducible refine (HNU2.out _).mono ?_; rintro e w1 ⟨rfl, rfl⟩))
                      first | exact HF2.out | (go_ret; exact HF2.out)
                    · rw [if_neg hk0] at ht
                      have hk1 : (0 : Int) < (N : Int) := by omega
                      obtain ⟨M, hM⟩ : ∃ M, 1000000000 - N = M := ⟨_, rfl⟩
                      have hMi : (1000000000 : Int) - (N : Int) = (M : Int) := by omega
                      have hM9 : M ≤ 1000000000 := by omega
                      rw [hM] at ht
                      have HF2 : Hid (P (.returned (.tuple #[.int .i64 (-(U : Int) - 1), .int .i32 (M : Nat), .int .i64 0])) wr) := HF.out _ _ ht HN.out
                      clear HF ht hM
                      go_wp2_with (first | (go_at_call 17; with_reducible refine (HNU2.out _).mono ?_; rintro e w1 ⟨rfl, rfl⟩))
                      first | exact HF2.out | (go_ret; exact HF2.out)
    · rw [decide_eq_false hc0] at hq0
      obtain ⟨r, hr⟩ : ∃ r, restV l = r := ⟨_, rfl⟩
      have hm : minusV l = false := by rw [hl0]; unfold minusV; simp; exact hc0
      have hrl : r = c0 :: l0 := by rw [← hr]; unfold restV; rw [hm, hl0]; rfl
      have hrlen : r.length ≤ 140737488351232 := by rw [hrl]; rw [hl0] at hl; exact hl
      have HT0 : Hid (∀ k, k = ndA r → r.drop k = [] → timV l = timW false (r.take k) []) := fun k hk h => by
        have := tim_w0 l k (by rw [hr]; exact hk) (by rw [hr]; exact h)
        rw [hr, hm] at this
        exact this
      have HT1 : Hid (∀ k, k = ndA r → ∀ t, r.drop k = 46#8 :: t → timV l = timW false (r.take k) t) := fun k hk t h => by
        have := tim_w1 l k (by rw [hr]; exact hk) t (by rw [hr]; exact h)
        rw [hr, hm] at this
        exact this
      have HT2 : Hid (∀ k, k = ndA r → ∀ c t, r.drop k = c :: t → c ≠ 46#8 → timV l = (0, 0, 120)) := fun k hk c t h hc => tim_w2 l k (by rw [hr]; exact hk) c t (by rw [hr]; exact h) hc
      have HX : Hid (∀ I, I ≤ r.length → (str r).extract 0 I = str (r.take I) ∧ (str r).extract I (str r).size = str (r.drop I)) := fun I h => strX r I h
      have hsz := str_size r
      have hndl := ndA_le r
      have hget : Hid (∀ j (h : j < (str r).size) (h' : j < r.length), ((str r)[j]'h).toNat = (r[j]'h').toNat) := fun j h h' => str_get r j h
      have hpos : 0 < r.length := by rw [hrl]; simp
      have hc0g : ((str r)[0]'(by rw [hsz]; exact hpos)).toNat = c0.toNat := by rw [str_get r 0 (by rw [hsz]; exact hpos)]; simp only [hrl, List.getElem_cons_zero]
      rw [← hrl]
      clear hm hr hrl hl0 hc0
      generalize str r = s at *
      generalize c0.toNat = y0 at *
      have z1 : (0 : Int) < (s.size : Int) := by omega
      go_enter Tryd.func19, Tryd.ntmps19
      go_upto_region 5 with fail
      try rw [hcut]
      try rw [hq0]
      go_loopg [6] r.length (fun kx v wr => ∃ I : Nat, I ≤ ndA r ∧ r.length - I ≤ kx ∧ v = .int .i64 I ∧ wr = w)
      case atStart => exact ⟨0, by omega, by omega, rfl, rfl⟩
      case round =>
        obtain ⟨I, hI, hkx, rfl, hw⟩ := hrel
        have hw' := hw.symm
        subst hw'
        clear hw
        by_cases hlt : I < r.length
        · have hlt' : I < s.size := by omega
          have hg := hget.out I hlt' hlt
          have HDG := tHid (rdig_any r[I].toNat w)
          by_cases hx : isD r[I]
          · have hI2 := ndA_go r I hI hlt hx
            unfold isD at hx
            rw [decide_eq_true hx] at HDG
            clear HF hx hget HX HT0 HT1 HT2
            generalize r[I].toNat = x at *
            go_wp2_with (first | (go_at_call 39; with_reducible refine HDG.out.mono ?_; rintro e w1 ⟨rfl, rfl⟩))
            go_roundg (r.length - (I + 1))
            case measure => omega
            case rel => exact ⟨I + 1, hI2, by omega, by first | rfl | (congr 1), rfl⟩
          · have hk := ndA_end r I hI (fun _ => hx)
            obtain ⟨hxa, hxb⟩ := HX.out I (by omega)
            have hql : (r.drop I).length = r.length - I := List.length_drop
            have hpl : (r.take I).length ≤ 140737488351232 := by rw [List.length_take]; omega
            have hdr : r.drop I = r[I] :: r.drop (I + 1) := List.drop_eq_getElem_cons hlt
            by_cases hdot : r[I] = 46#8
            · rw [hdot] at hdr
              have HT := tHid (HT1.out I hk _ hdr)
              obtain ⟨p, hp⟩ : ∃ p, r.take I = p := ⟨_, rfl⟩
              obtain ⟨t, ht⟩ : ∃ t, r.drop (I + 1) = t := ⟨_, rfl⟩
              rw [ht] at hdr HT
              rw [hdr] at hxb hql
              rw [hp] at hxa HT hpl
              have hqs := str_size (46#8 :: t)
              have hgq : Hid (∀ j (h : j < (str (46#8 :: t)).size) (h' : j < t.length + 1), ((str (46#8 :: t))[j]'h).toNat = ((46#8 :: t)[j]'h').toNat) := fun j h h' => str_get (46#8 :: t) j h
              have b0 := str_emp (46#8 :: t)
              have b1 := str_emp2 (46#8 :: t)
              rw [decide_eq_false (List.cons_ne_nil _ _)] at b0 b1
              have hga : Hid (∀ j (h : j + 1 < (str (46#8 :: t)).size) (h' : j < t.length), ((str (46#8 :: t))[j + 1]'h).toNat = (t[j]'h').toNat) := fun j h h' => str_get (46#8 :: t) (j + 1) h
              rw [List.length_cons] at hqs hql
              unfold isD at hx
              rw [decide_eq_false hx] at HDG
              have HNU := tHid (fun V => rnum_any p hpl V)
              have hlt0 : 0 < (str (46#8 :: t)).size := by rw [hqs]; exact Nat.succ_pos _
              have hg0 : ((str (46#8 :: t))[0]'hlt0).toNat = 46 := by rw [str_get]; rfl
              have hxb2 := hxb
              rw [hsz] at hxb2
              have z5 : (I : Int) ≤ (s.size : Int) := by omega
              clear hx hget HX HT0 HT1 HT2 hdr hgq hp ht hdot hk
              generalize str (46#8 :: t) = sq at *
              generalize str p = sp at *
              generalize r[I].toNat = x at *
              have z0 : (1 : Int) ≤ (sq.size : Int) := by omega
              go_upto_region 7 with (first | (go_at_call 39; with_reducible refine HDG.out.mono ?_; rintro e w1 ⟨rfl, rfl⟩))
              go_quiet (fail)
              try rw [hxa]
              try rw [hxb2]
              go_upto_region 12 with fail
              go_loopg [9, 10] 9 (fun kx v i wr => ∃ (J N : Nat), J ≤ 9 ∧ 9 - J ≤ kx ∧ i = .int .i64 ((J + 1 : Nat) : Int) ∧ v = .int .i32 N ∧ N < 1000000000 ∧ Hid (Nw w wr) ∧ Hid (N < 10 ^ J ∧ (allD t = true → N = val 0 ((t ++ List.replicate 9 48#8).take J))))
              case atStart => exact ⟨0, 0, by omega, by omega, rfl, rfl, by omega, (Fr.refl _ _).drewN _, by decide, fun _ => rfl⟩
              case round =>
                obtain ⟨J, N, hJ, hkj, rfl, rfl, hN, HN, HV⟩ := hrel
                obtain ⟨hp, hv⟩ := HV.out
                by_cases hj9 : J < 9
                · have hpa := pad_at t J hj9
                  have hps : 10 ^ (J + 1) = 10 * 10 ^ J := by rw [Nat.pow_succ, Nat.mul_comm]
                  have hp9 : 10 ^ (J + 1) ≤ 10 ^ 9 := Nat.pow_le_pow_right (by decide) (by omega)
                  have hp9' : (10 : Nat) ^ 9 = 1000000000 := rfl
                  obtain ⟨A, hA⟩ : ∃ A, J + 1 = A := ⟨_, rfl⟩
                  obtain ⟨T, hT⟩ : ∃ T, N * 10 = T := ⟨_, rfl⟩
                  have hTi : (10 : Int) * (N : Int) = (T : Int) := by omega
                  have hT9 : T < 1000000000 := by omega
                  have hA9 : (A : Int) ≤ 9 := by omega
                  by_cases hjt : J < t.length
                  · have hjs : J + 1 < sq.size := by omega
                    have hg := hga.out J hjs hjt
                    have HDG2 := tHid (rdig_any (t[J]'hjt).toNat wr)
                    rw [dif_pos hjt] at hpa
                    by_cases hx : isD (t[J]'hjt)
                    · unfold isD at hx
                      rw [decide_eq_true hx] at HDG2
                      obtain ⟨y, hy⟩ : ∃ y, (t[J]'hjt).toNat = y := ⟨_, rfl⟩
                      rw [hy] at hg hx hpa HDG2
                      obtain ⟨z, hz⟩ : ∃ z, y - 48 = z := ⟨_, rfl⟩
                      have hyz : (y : Int) - 48 = (z : Int) := by omega
                      have hz9 : z ≤ 9 := by omega
                      rw [hz] at hpa
                      obtain ⟨M, hM⟩ : ∃ M, T + z = M := ⟨_, rfl⟩
                      have hMi : (T : Int) + (z : Int) = (M : Int) := by omega
                      have hM9 : M < 1000000000 := by omega
                      have HV2 : Hid (M < 10 ^ (J + 1) ∧ (allD t = true → M = val 0 ((t ++ List.replicate 9 48#8).take (J + 1)))) := ⟨by omega, fun h => by rw [hpa, ← hv h]; omega⟩
                      have hjs' : A < sq.size := by omega
                      have hg' : (sq[A]'hjs').toNat = y := by subst hA; exact hg
                      clear HF HT HV hga hv hp hpa hps hp9 hp9' hz hx hM hT hg HNU
                      rw [hA]
                      go_wp2_with (first | (go_at_call 39; with_reducible refine HDG2.out.mono ?_; rintro e w1 ⟨rfl, rfl⟩))
                      go_roundg (9 - (J + 1))
                      case measure => omega
                      case rel => exact ⟨J + 1, M, by omega, by omega, by first | rfl | (congr 1; omega), rfl, hM9, HN, by first | exact HV2 | (rw [hA]; exact HV2)⟩
                    · have HV2 : Hid (T < 10 ^ (J + 1) ∧ (allD t = true → T = val 0 ((t ++ List.replicate 9 48#8).take (J + 1)))) := ⟨by omega, fun h => by rw [allD_no t _ (List.getElem_mem hjt) hx] at h; cases h⟩
                      unfold isD at hx
                      rw [decide_eq_false hx] at HDG2
                      obtain ⟨y, hy⟩ : ∃ y, (t[J]'hjt).toNat = y := ⟨_, rfl⟩
                      rw [hy] at hg hx hpa HDG2
                      have hjs' : A < sq.size := by omega
                      have hg' : (sq[A]'hjs').toNat = y := by subst hA; exact hg
                      clear HF HT HV hga hv hp hpa hps hp9 hp9' hx hT hg HNU
                      rw [hA]
                      go_wp2_with (first | (go_at_call 39; with_reducible refine HDG2.out.mono ?_; rintro e w1 ⟨rfl, rfl⟩))
                      go_roundg (9 - (J + 1))
                      case measure => omega
                      case rel => exact ⟨J + 1, T, by omega, by omega, by first | rfl | (congr 1; omega), rfl, hT9, HN, by first | exact HV2 | (rw [hA]; exact HV2)⟩
                  · rw [dif_neg hjt] at hpa
                    have HV2 : Hid (T < 10 ^ (J + 1) ∧ (allD t = true → T = val 0 ((t ++ List.replicate 9 48#8).take (J + 1)))) := ⟨by omega, fun h => by rw [hpa, ← hv h]; omega⟩
                    have hjs' : decide ((A : Int) < (sq.size : Int)) = false := decide_eq_false (by omega)
                    clear HF HT HV hga hv hp hpa hps hp9 hp9' hT HNU
                    rw [hA]
                    go_wp2_with fail
                    go_roundg (9 - (J + 1))
                    case measure => omega
                    case rel => exact ⟨J + 1, T, by omega, by omega, by first | rfl | (congr 1; omega), rfl, hT9, HN, by first | exact HV2 | (rw [hA]; exact HV2)⟩
                · obtain rfl : J = 9 := by omega
                  have HNA : Hid (allD t = true → N = nanoV t) := hv
                  clear HV hv hp hkj hj9
                  go_upto_region 19 with fail
                  go_loopg [12] t.length (fun kx v wr => ∃ J : Nat, J ≤ t.length ∧ t.length - J ≤ kx ∧ v = .int .i64 ((J + 1 : Nat) : Int) ∧ Hid (Nw w wr) ∧ Hid (∀ c ∈ t.take J, isD c))
                  case atStart => exact ⟨0, by omega, by omega, rfl, HN, by show ∀ c ∈ _, _; simp⟩
                  case round =>
                    obtain ⟨J, hJ, hkj, rfl, HN, HI⟩ := hrel
                    obtain ⟨A, hA⟩ : ∃ A, J + 1 = A := ⟨_, rfl⟩
                    by_cases hjt : J < t.length
                    · have hjs : J + 1 < sq.size := by omega
                      have hg := hga.out J hjs hjt
                      have hjs' : A < sq.size := by omega
                      have hg' : (sq[A]'hjs').toNat = (t[J]'hjt).toNat := by subst hA; exact hg
                      have HDG2 := tHid (rdig_any (t[J]'hjt).toNat wr)
                      by_cases hx : isD (t[J]'hjt)
                      · have HI2 : Hid (∀ c ∈ t.take (J + 1), isD c) := take_all t J hjt isD HI.out hx
                        unfold isD at hx
                        rw [decide_eq_true hx] at HDG2
                        clear HF HT hga hx hg HNU HI HNA
                        rw [hA]
                        generalize (t[J]'hjt).toNat = y at *
                        go_wp2_with (first | (go_at_call 39; with_reducible refine HDG2.out.mono ?_; rintro e w1 ⟨rfl, rfl⟩))
                        go_roundg (t.length - (J + 1))
                        case measure => omega
                        case rel => exact ⟨J + 1, by omega, by omega, by first | rfl | (congr 1; omega), HN, by first | exact HI2 | (rw [hA]; exact HI2)⟩
                      · have ht := HT.out
                        unfold timW at ht
                        rw [if_pos (allD_no t _ (List.getElem_mem hjt) hx)] at ht
                        have HF2 : Hid (P (.returned (.tuple #[.int .i64 0, .int .i32 0, .int .i64 120])) wr) := HF.out _ _ ht HN.out
                        unfold isD at hx
                        rw [decide_eq_false hx] at HDG2
                        clear HF HT hga hx hg HNU HI HNA ht
                        rw [hA]
                        generalize (t[J]'hjt).toNat = y at *
                        go_wp2_with (first | (go_at_call 39; with_reducible refine HDG2.out.mono ?_; rintro e w1 ⟨rfl, rfl⟩))
                        first | exact HF2.out | (go_ret; exact HF2.out)
                    · have hall := HI.out
                      rw [List.take_of_length_le (by omega)] at hall
                      have hA1 := (allD_iff t).2 hall
                      have hna := HNA.out hA1
                      have ht := HT.out
                      have hnl := numV_lt p
                      unfold timW at ht
                      rw [hA1, if_neg (by decide), ← hna] at ht
                      have hjs' : decide ((A : Int) < (sq.size : Int)) = false := decide_eq_false (by omega)
                      clear HT hga HI HNA hall hA1 hna
                      rw [hA]
                      generalize numV p = Q at *
                      obtain ⟨U, E⟩ := Q
                      simp only at ht hnl HNU
                      by_cases he : E ≠ 0
                      · rw [if_pos he] at ht
                        have he0 : ¬ ((E : Int) = 0) := by omega
                        have HF2 : Hid (P (.returned (.tuple #[.int .i64 0, .int .i32 0, .int .i64 (E : Nat)])) wr) := HF.out _ _ ht HN.out
                        clear HF ht
                        go_wp2_with (first | (go_at_call 17; with_reducible refine (HNU.out _).mono ?_; rintro e w1 ⟨rfl, rfl⟩))
                        first | exact HF2.out | (go_ret; exact HF2.out)
                      · have hE0 : E = 0 := by omega
                        subst hE0
                        rw [if_neg he] at ht
                        clear he
                        have HNU2 : Hid (∀ V, Calls Tryd.prog 17 #[.string sp] V fun e w' => e = .returned (.tuple #[.int .i64 (U : Nat), .int .i64 0]) ∧ V = w') := HNU
                        clear HNU
                        first | rw [if_pos trivial] at ht | rw [if_pos rfl] at ht
                        have HF2 : Hid (P (.returned (.tuple #[.int .i64 (U : Nat), .int .i32 (N : Nat), .int .i64 0])) wr) := HF.out _ _ ht HN.out
                        clear HF ht
                        go_wp2_with (first | (go_at_call 17; with_reducible refine (HNU2.out _).mono ?_; rintro e w1 ⟨rfl, rfl⟩))
                        first | exact HF2.out | (go_ret; exact HF2.out)
            · have htv := HT2.out I hk _ _ hdr hdot
              have hqs := str_size (r[I] :: r.drop (I + 1))
              have hlt0 : 0 < (str (r[I] :: r.drop (I + 1))).size := by rw [hqs]; exact Nat.succ_pos _
              have hg0 : ((str (r[I] :: r.drop (I + 1)))[0]'hlt0).toNat = r[I].toNat := by rw [str_get]; rfl
              have b0 := str_emp (r[I] :: r.drop (I + 1))
              have b1 := str_emp2 (r[I] :: r.drop (I + 1))
              rw [decide_eq_false (List.cons_ne_nil _ _)] at b0 b1
              have hq : ((r[I].toNat : Int) == 46) = decide (r[I] = 46#8) := nth_eq r[I] 46 (by decide)
              rw [decide_eq_false hdot] at hq
              rw [hdr] at hxb hql
              rw [List.length_cons] at hqs hql
              unfold isD at hx
              rw [decide_eq_false hx] at HDG
              have HF2 : Hid (∀ V, Nw w V → P (.returned (.tuple #[.int .i64 0, .int .i32 0, .int .i64 120])) V) := fun V hV => HF.out _ V htv hV
              have hxb2 := hxb
              rw [hsz] at hxb2
              have z5 : (I : Int) ≤ (s.size : Int) := by omega
              clear hx hget HX HT0 HT1 HT2 hdr hdot htv HF hk
              generalize str (r[I] :: r.drop (I + 1)) = sq at *
              generalize str (r.take I) = sp at *
              generalize r[I].toNat = x at *
              have z0 : (1 : Int) ≤ (sq.size : Int) := by omega
              go_upto_region 7 with (first | (go_at_call 39; with_reducible refine HDG.out.mono ?_; rintro e w1 ⟨rfl, rfl⟩))
              go_quiet (fail)
              try rw [hxa]
              try rw [hxb2]
              go_wp2_with fail
              first | exact HF2.out _ ((Fr.refl _ _).drewN _) | (go_ret; exact HF2.out _ ((Fr.refl _ _).drewN _))
        · have hk := ndA_end r I hI (fun h => absurd h hlt)
          obtain ⟨hxa, hxb⟩ := HX.out I (by have := ndA_le r; omega)
          have hpl : (r.take I).length ≤ 140737488351232 := by rw [List.length_take]; omega
          have hdr : r.drop I = [] := List.drop_of_length_le (by omega)
          have HT := tHid (HT0.out I hk hdr)
          obtain ⟨p, hp⟩ : ∃ p, r.take I = p := ⟨_, rfl⟩
          obtain ⟨t, ht⟩ : ∃ t : Bs, [] = t := ⟨_, rfl⟩
          rw [hdr] at hxb
          rw [hp] at hxa HT hpl
          have hqs0 : (str []).size = 0 := rfl
          have hqs : (str []).size = t.length + 0 := by rw [← ht]; rfl
          have htl : t.length = 0 := by rw [← ht]; rfl
          have b0 := str_emp []
          have b1 := str_emp2 []
          rw [decide_eq_true rfl] at b0 b1
          have hga : Hid (∀ j (h : j + 1 < (str []).size) (h' : j < t.length), ((str [])[j + 1]'h).toNat = (t[j]'h').toNat) := fun j h h' => by omega
          rw [ht] at HT
          have HNU := tHid (fun V => rnum_any p hpl V)
          have z5 : (I : Int) ≤ (s.size : Int) := by omega
          have hxb2 := hxb
          rw [hsz] at hxb2
          clear hget HX HT0 HT1 HT2 hdr hp ht hk
          generalize str [] = sq at *
          generalize str p = sp at *
          go_upto_region 7 with fail
          go_quiet (fail)
          try rw [hxa]
          try rw [hxb2]
          go_upto_region 12 with fail
          go_loopg [9, 10] 9 (fun kx v i wr => ∃ (J N : Nat), J ≤ 9 ∧ 9 - J ≤ kx ∧ i = .int .i64 ((J + 1 : Nat) : Int) ∧ v = .int .i32 N ∧ N < 1000000000 ∧ Hid (Nw w wr) ∧ Hid (N < 10 ^ J ∧ (allD t = true → N = val 0 ((t ++ List.replicate 9 48#8).take J))))
          case atStart => exact ⟨0, 0, by omega, by omega, rfl, rfl, by omega, (Fr.refl _ _).drewN _, by decide, fun _ => rfl⟩
          case round =>
            obtain ⟨J, N, hJ, hkj, rfl, rfl, hN, HN, HV⟩ := hrel
            obtain ⟨hp, hv⟩ := HV.out
            by_cases hj9 : J < 9
            · have hpa := pad_at t J hj9
              have hps : 10 ^ (J + 1) = 10 * 10 ^ J := by rw [Nat.pow_succ, Nat.mul_comm]
              have hp9 : 10 ^ (J + 1) ≤ 10 ^ 9 := Nat.pow_le_pow_right (by decide) (by omega)
              have hp9' : (10 : Nat) ^ 9 = 1000000000 := rfl
              obtain ⟨A, hA⟩ : ∃ A, J + 1 = A := ⟨_, rfl⟩
              obtain ⟨T, hT⟩ : ∃ T, N * 10 = T := ⟨_, rfl⟩
              have hTi : (10 : Int) * (N : Int) = (T : Int) := by omega
              have hT9 : T < 1000000000 := by omega
              have hA9 : (A : Int) ≤ 9 := by omega
              by_cases hjt : J < t.length
              · exfalso; omega
              · rw [dif_neg hjt] at hpa
                have HV2 : Hid (T < 10 ^ (J + 1) ∧ (allD t = true → T = val 0 ((t ++ List.replicate 9 48#8).take (J + 1)))) := ⟨by omega, fun h => by rw [hpa, ← hv h]; omega⟩
                have hjs' : decide ((A : Int) < (sq.size : Int)) = false := decide_eq_false (by omega)
                clear HF HT HV hga hv hp hpa hps hp9 hp9' hT HNU
                rw [hA]
                go_wp2_with fail
                go_roundg (9 - (J + 1))
                case measure => omega
                case rel => exact ⟨J + 1, T, by omega, by omega, by first | rfl | (congr 1; omega), rfl, hT9, HN, by first | exact HV2 | (rw [hA]; exact HV2)⟩
            · obtain rfl : J = 9 := by omega
              have HNA : Hid (allD t = true → N = nanoV t) := hv
              clear HV hv hp hkj hj9
              go_upto_region 19 with fail
              go_loopg [12] t.length (fun kx v wr => ∃ J : Nat, J ≤ t.length ∧ t.length - J ≤ kx ∧ v = .int .i64 ((J + 1 : Nat) : Int) ∧ Hid (Nw w wr) ∧ Hid (∀ c ∈ t.take J, isD c))
              case atStart => exact ⟨0, by omega, by omega, rfl, HN, by show ∀ c ∈ _, _; simp⟩
              case round =>
                obtain ⟨J, hJ, hkj, rfl, HN, HI⟩ := hrel
                obtain ⟨A, hA⟩ : ∃ A, J + 1 = A := ⟨_, rfl⟩
                by_cases hjt : J < t.length
                · exfalso; omega
                · have hall := HI.out
                  rw [List.take_of_length_le (by omega)] at hall
                  have hA1 := (allD_iff t).2 hall
                  have hna := HNA.out hA1
                  have ht := HT.out
                  have hnl := numV_lt p
                  unfold timW at ht
                  rw [hA1, if_neg (by decide), ← hna] at ht
                  have hjs' : decide ((A : Int) < (sq.size : Int)) = false := decide_eq_false (by omega)
                  clear HT hga HI HNA hall hA1 hna
                  rw [hA]
                  generalize numV p = Q at *
                  obtain ⟨U, E⟩ := Q
                  simp only at ht hnl HNU
                  by_cases he : E ≠ 0
                  · rw [if_pos he] at ht
                    have he0 : ¬ ((E : Int) = 0) := by omega
                    have HF2 : Hid (P (.returned (.tuple #[.int .i64 0, .int .i32 0, .int .i64 (E : Nat)])) wr) := HF.out _ _ ht HN.out
                    clear HF ht
                    go_wp2_with (first | (go_at_call 17; with_reducible refine (HNU.out _).mono ?_; rintro e w1 ⟨rfl, rfl⟩))
                    first | exact HF2.out | (go_ret; exact HF2.out)
                  · have hE0 : E = 0 := by omega
                    subst hE0
                    rw [if_neg he] at ht
                    clear he
                    have HNU2 : Hid (∀ V, Calls Tryd.prog 17 #[.string sp] V fun e w' => e = .returned (.tuple #[.int .i64 (U : Nat), .int .i64 0]) ∧ V = w') := HNU
                    clear HNU
                    first | rw [if_pos trivial] at ht | rw [if_pos rfl] at ht
                    have HF2 : Hid (P (.returned (.tuple #[.int .i64 (U : Nat), .int .i32 (N : Nat), .int .i64 0])) wr) := HF.out _ _ ht HN.out
                    clear HF ht
                    go_wp2_with (first | (go_at_call 17; with_reducible refine (HNU2.out _).mono ?_; rintro e w1 ⟨rfl, rfl⟩))
                    first | exact HF2.out | (go_ret; exact HF2.out)
end Go.Proofs.YtenkchhlaphocaaDoor
