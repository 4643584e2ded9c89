import Derived.Test.YtffhpoilifgcdaaDoorVat
import Derived.BigRegion
namespace Go.Proofs.YtffhpoilifgcdaaDoor
open Go.RowKit
set_option linter.unusedVariables false
/-! ### The document's decimal and Put -/
def dig (d : Nat) : By := BitVec.ofNat 8 (48 + d)
theorem dig_nat (d : Nat) (h : d < 10) : (dig d).toNat = 48 + d := (isDg_of d h).2
def NewO (w : World) (l : List By) (e : Ending) (V : World) : Prop := ∃ g k c, e = .returned (.slice (some ⟨g, 0, none⟩) k c) ∧ Hid (Ow g (.slice (some ⟨g, 0, none⟩) k c) l V ∧ Nw w V ∧ w.heap.size ≤ g)
theorem own_one (V : World) (x : By) (z : Int) (hz : z = x.toNat) : Ow V.heap.size (.slice (some ⟨V.heap.size, 0, none⟩) 1 1) [x] (V.alloc (.cells #[.int .u8 z] 5)) := by
  subst hz
  exact ⟨[x], rfl, rfl, by simp, by simp, by show (V.heap.push _)[V.heap.size]? = _; simp⟩
set_option maxHeartbeats 4000000 in
set_option maxRecDepth 100000 in
theorem rdgt_any (w : World) (u : Nat) (hu : u ≤ 9223372036854775807) : Calls Tryd.prog 27 #[.int .i64 u] w (NewO w (dgt u)) := by
  obtain ⟨P, hP⟩ : ∃ P : Ending → World → Prop, P = NewO w (dgt u) := ⟨_, rfl⟩
  rw [← hP]
  have HF : Hid (∀ V g k c, Ow g (.slice (some ⟨g, 0, none⟩) k c) (dgt u) V → Nw w V → w.heap.size ≤ g → P (.returned (.slice (some ⟨g, 0, none⟩) k c)) V) := fun V g k c h1 h2 h3 => by rw [hP]; exact ⟨g, k, c, rfl, h1, h2, h3⟩
  clear hP
  have hr1 : (u : Int).tmod 10 = ((u % 10 : Nat) : Int) := by rw [Int.tmod_eq_emod_of_nonneg (by omega)]; omega
  have hr2 : (u : Int) % 10 = ((u % 10 : Nat) : Int) := by omega
  have hlt := Nat.mod_lt u (show 0 < 10 by omega)
  obtain ⟨r, hr⟩ : ∃ r, u % 10 = r := ⟨_, rfl⟩
  rw [hr] at hr1 hr2 hlt
  obtain ⟨z, hz⟩ : ∃ z, 48 + r = z := ⟨_, rfl⟩
  have hz1 : (48 : Int) + (r : Int) = (z : Int) := by omega
  have hzn : ((z : Nat) : Int) = (dig r).toNat := by rw [dig_nat r hlt]; omega
  have HO : Hid (Ow w.heap.size (.slice (some ⟨w.heap.size, 0, none⟩) 1 1) [dig r] (w.alloc (.cells #[.int .u8 (z : Int)] 5))) := own_one w (dig r) z hzn
  have HR := tHid hr
  have hzb : (z : Int) < 256 := by omega
  clear hz hzn hr
  go_enter Tryd.func27, Tryd.ntmps27
  go_upto_region 2 with fail
  go_loopg [0, 3] u (fun kx n v wr => ∃ (N g k c : Nat), N ≤ kx ∧ N ≤ u ∧ n = .int .i64 N ∧ v = .slice (some ⟨g, 0, none⟩) k c ∧ Hid (∃ rest, dgt u = dgt N ++ rest ∧ Ow g (.slice (some ⟨g, 0, none⟩) k c) (dig (N % 10) :: rest) wr ∧ Nw w wr ∧ w.heap.size ≤ g ∧ rest.length ≤ 20))
  case atStart => exact ⟨u, w.heap.size, 1, 1, by omega, by omega, rfl, rfl, [], by simp, by rw [HR.out]; exact HO.out, (Fr.refl _ _).alloc _, Nat.le_refl _, by simp⟩
  case round =>
    obtain ⟨N, g, k, c, hN, hNu, rfl, rfl, HI⟩ := hrel
    obtain ⟨rest, h1, h2, h3, h4, h5⟩ := HI.out
    by_cases hlt10 : N < 10
    · have HF2 := tHid (HF.out wr g k c (by rw [h1, dgt_small hlt10]; rw [Nat.mod_eq_of_lt hlt10] at h2; exact h2) h3 h4)
      have hge : ¬ (10 : Int) ≤ (N : Int) := by omega
      clear HF HI h1 h2 h3 h4 HO
      go_wp2_with fail
      first | exact HF2.out | (go_ret; exact HF2.out)
    · have hge : (10 : Int) ≤ (N : Int) := by omega
      have hq1 : (N : Int).tdiv 10 = ((N / 10 : Nat) : Int) := by rw [Int.tdiv_eq_ediv_of_nonneg (by omega)]; omega
      have hq2 : (N : Int) / 10 = ((N / 10 : Nat) : Int) := by omega
      have hbig := dgt_big hlt10
      obtain ⟨Q, hQ⟩ : ∃ Q, N / 10 = Q := ⟨_, rfl⟩
      have hQN : Q < N := by omega
      rw [hQ] at hq1 hq2 hbig
      have s1 : (Q : Int).tmod 10 = ((Q % 10 : Nat) : Int) := by rw [Int.tmod_eq_emod_of_nonneg (by omega)]; omega
      have s2 : (Q : Int) % 10 = ((Q % 10 : Nat) : Int) := by omega
      have hlt2 := Nat.mod_lt Q (show 0 < 10 by omega)
      obtain ⟨r2, hr2'⟩ : ∃ r2, Q % 10 = r2 := ⟨_, rfl⟩
      rw [hr2'] at s1 s2 hlt2
      obtain ⟨z2, hz2⟩ : ∃ z2, 48 + r2 = z2 := ⟨_, rfl⟩
      have hz21 : (48 : Int) + (r2 : Int) = (z2 : Int) := by omega
      have hz2b : (z2 : Int) < 256 := by omega
      have hN2 : Nw wr (wr.alloc (.cells #[.int .u8 (z2 : Int)] 5)) := (Fr.refl _ _).alloc _
      have hrl : rest.length ≤ 19 := by
        have e1 := congrArg List.length h1
        rw [List.length_append] at e1
        have e2 := dgt_short u (by omega)
        have e3 : 1 ≤ (dgt N).length := by have := dgt_ne N; cases hd : dgt N with | nil => exact absurd hd this | cons x y => simp
        omega
      obtain ⟨v', g', W, q1, q2, q3, q4⟩ := app_any _ _ _ [dig r2] (own_one wr (dig r2) z2 (by rw [dig_nat r2 hlt2]; omega)) (.slice (some ⟨g, 0, none⟩) k c) (dig (N % 10) :: rest) (.inr ⟨g, fun h => h, (h2.nw hN2).slb⟩) (by simp; omega)
      obtain ⟨xs, rfl, _⟩ := id q2
      have hs0 : ∀ o, (wr.alloc o).heap.size = wr.heap.size + 1 := fun o => by simp
      rw [hs0] at q4
      have hwr := h3.size
      have HA : Hid (∀ ty, (Builtin.append_ #[23, 23] ty #[.slice (some ⟨wr.heap.size, 0, none⟩) 1 1, .slice (some ⟨g, 0, none⟩) k c]).run Tryd.prog (wr.alloc (.cells #[.int .u8 (z2 : Int)] 5)) = .ok (.slice (some ⟨g', 0, none⟩) ([dig r2] ++ dig (N % 10) :: rest).length xs.length) W) := q1
      have HNX : Hid (∃ rest, dgt u = dgt Q ++ rest ∧ Ow g' (.slice (some ⟨g', 0, none⟩) ([dig r2] ++ dig (N % 10) :: rest).length xs.length) (dig (Q % 10) :: rest) W ∧ Nw w W ∧ w.heap.size ≤ g' ∧ rest.length ≤ 20) ∨ True := .inr trivial
      have HNY : Hid (∃ rest', dgt u = dgt Q ++ rest' ∧ Ow g' (.slice (some ⟨g', 0, none⟩) ([dig r2] ++ dig (N % 10) :: rest).length xs.length) (dig (Q % 10) :: rest') W ∧ Nw w W ∧ w.heap.size ≤ g' ∧ rest'.length ≤ 20) := by
        refine ⟨dig (N % 10) :: rest, ?_, by rw [hr2']; exact q2, (h3.trans hN2).then q3 (fun i hi => .inr (by omega)), by rcases q4 with e | e <;> omega, by rw [List.length_cons]; omega⟩
        rw [h1, hbig, List.append_assoc]
        rfl
      clear HNX HF HI h1 h2 h3 h4 HO q1 q2 q3 q4 hbig hQ hr2' hz2 hN2 hs0
      generalize ([dig r2] ++ dig (N % 10) :: rest).length = kk at *
      generalize xs.length = cc at *
      go_wp2_with (first
        | (at_builtin; refine Lib.wpList_append_run _ rfl _ _ 23 23 rfl (.slice (some ⟨wr.heap.size, 0, none⟩) 1 1) (.slice (some ⟨g, 0, none⟩) k c) (by first | rfl | simp [Act.eval]) (by first | rfl | simp [Act.eval]) _ _ (HA.out _) ?_))
      go_roundg Q
      case measure => omega
      case rel => exact ⟨Q, g', kk, cc, Nat.le_refl _, by omega, rfl, rfl, HNY⟩
end Go.Proofs.YtffhpoilifgcdaaDoor

namespace Go.Proofs.YtffhpoilifgcdaaDoor
open Go.RowKit
set_option linter.unusedVariables false
/-! ### The document's Put -/
def appZ (tys : Array TypeId) (ty : TypeId) (args : Array Value) : Sem Value := Builtin.append_ tys ty args
theorem appZ_fold (tys : Array TypeId) (ty : TypeId) (args : Array Value) : Builtin.append_ tys ty args = appZ tys ty args := rfl
/-- Bytes of the call's own, under way. -/
structure QI (w : World) (l : List By) (g k c : Nat) (V : World) : Prop where
  nw : Nw w V
  ge : w.heap.size ≤ g
  ow : Ow g (.slice (some ⟨g, 0, none⟩) k c) l V
theorem QI.more {w : World} {l : List By} {g k c : Nat} {V V' : World} (h : QI w l g k c V) (f : Nw V V') : QI w l g k c V' := ⟨h.nw.trans f, h.ge, h.ow.nw f⟩
theorem QI.add {w : World} {l : List By} {g k c : Nat} {V : World} (h : QI w l g k c V) (x : Value) (p : List By) (hx : Sl (fun _ => False) x p V) (hb : l.length + p.length ≤ 200000000000000) : ∃ g' k' c' W, Hid (∀ ty, (Builtin.append_ #[23, 23] ty #[.slice (some ⟨g, 0, none⟩) k c, x]).run Tryd.prog V = .ok (.slice (some ⟨g', 0, none⟩) k' c') W) ∧ Hid (QI w (l ++ p) g' k' c' W) := by
  obtain ⟨v', g', W, k1, k2, k3, k4⟩ := app_any V g _ l h.ow x p hx hb
  obtain ⟨xs, rfl, _⟩ := id k2
  have h1 := h.nw.size
  have h2 := h.ge
  exact ⟨g', _, _, W, k1, h.nw.then k3 (fun i hi => .inr (by omega)), by rcases k4 with e | e <;> omega, k2⟩
theorem QI.one {w : World} {l : List By} {g k c : Nat} {V : World} (h : QI w l g k c V) (x : By) (z : Int) (hz : z = x.toNat) (hb : l.length ≤ 100000000000000) : ∃ g' k' c' W, Hid (∀ ty, (Builtin.append_ #[23, 23] ty #[.slice (some ⟨g, 0, none⟩) k c, .slice (some ⟨V.heap.size, 0, none⟩) 1 1]).run Tryd.prog (V.alloc (.cells #[.int .u8 z] 5)) = .ok (.slice (some ⟨g', 0, none⟩) k' c') W) ∧ Hid (QI w (l ++ [x]) g' k' c' W) := by
  have hN : Nw V (V.alloc (.cells #[.int .u8 z] 5)) := (Fr.refl _ _).alloc _
  exact (h.more hN).add (.slice (some ⟨V.heap.size, 0, none⟩) 1 1) [x] (.inr ⟨_, fun h => h, (own_one V x z hz).slb⟩) (by simp; omega)
attribute [local go_sem ↓] appZ_fold
set_option maxHeartbeats 16000000 in
set_option maxRecDepth 100000 in
theorem rput_any {X : Nat → Prop} (w : World) (a : Option Addr) (n c : Nat) (l : List Rg) (hl : SlR RG X (.slice a n c) l w) :
    Calls Tryd.prog 7 #[.slice a n c] w (PtA w l) := by
  obtain ⟨P, hP⟩ : ∃ P : Ending → World → Prop, P = PtA w l := ⟨_, rfl⟩
  rw [← hP]
  obtain ⟨hln, k1, k2⟩ := slg_len hl
  have HV := tHid (rvalid_any w a n c l hl 9223372036854775807)
  cases hv : vld l 9223372036854775807 with
  | false =>
    have HF : Hid (∀ V, Nw w V → P (.returned (.tuple #[.slice none 0 0, .int .i64 1])) V) := fun V hV => by rw [hP]; exact PtA.bad hv hV
    rw [hv] at HV
    clear hP hl hln hv
    go_enter Tryd.func7, Tryd.ntmps7
    go_wp2_with (first
      | (go_at_call 26; with_reducible refine HV.out.mono ?_; rintro e w1 ⟨rfl, H1⟩; have H1 := tHid H1))
    first | exact HF.out _ H1.out | (go_ret; exact HF.out _ H1.out)
  | true =>
    rw [hv] at HV
    obtain ⟨m, rfl, hch, hml⟩ := vld_m hv
    rw [rgL_len] at hln
    have HF : Hid (∀ V g k c, QI w (ptT m) g k c V → P (.returned (.tuple #[.slice (some ⟨g, 0, none⟩) k c, .int .i64 0])) V) := fun V g k c h => by
      rw [hP]
      refine ⟨_, k, c, by rw [hv]; rfl, h.nw, ?_⟩
      unfold ptX
      rw [hv, if_pos rfl, natL_rgL]
      exact .inr ⟨g, by have := h.ge; omega, h.ow⟩
    have hall := chn_all hch
    have hbl := bdT_len m hml hall
    have HI : Hid (∀ V, Nw w V → ∀ i (h : i < m.length), ∃ g o, a = some ⟨g, o, none⟩ ∧ V.cell? ⟨g, o + i * 2, none⟩ = some (.int .i64 (m[i].1 : Int)) ∧ V.cell? ⟨g, o + i * 2 + 1, none⟩ = some (.int .i64 (m[i].2 : Int))) := fun V hV i h => rgN_at2 (hl.nw hV) i h
    have HD : Hid (∀ (V : World) (u : Nat), u ≤ 9223372036854775807 → Calls Tryd.prog 27 #[.int .i64 u] V fun e V' => ∃ g k c, e = .returned (.slice (some ⟨g, 0, none⟩) k c) ∧ Hid (Ow g (.slice (some ⟨g, 0, none⟩) k c) (dgt u) V' ∧ Nw V V' ∧ V.heap.size ≤ g)) := fun V u hu => rdgt_any V u hu
    have HAll := tHid hall
    have HBL := tHid hbl
    have HLN := tHid hln
    have hn6 : n ≤ 65536 := by omega
    have HRL : Hid (∀ i, (lnT m.length ++ rgsT (m.take i)).length ≤ 3000000) := fun i => by
      have h1 := rgsT_len (m.take i) (fun x hx => hall x (List.mem_of_mem_take hx))
      have h2 := dgt_short m.length (by omega)
      have h3 : (m.take i).length ≤ m.length := by rw [List.length_take]; omega
      rw [List.length_append, lnT_len]; omega
    clear hP hl hln hv hch hall hbl
    have HD1 := tHid (fun V => HD.out V n (by omega))
    have hds := dgt_short n (by omega)
    go_enter Tryd.func7, Tryd.ntmps7
    go_upto_region 4 with (first
      | (go_at_call 26; with_reducible refine HV.out.mono ?_; rintro e w1 ⟨rfl, H1⟩; have H1 := tHid H1)
      | (go_at_call 27; (with_reducible refine (HD1.out w1).mono ?_); rintro e w2 ⟨g2, k2', c2, rfl, H2⟩; obtain ⟨g3, k3, c3, W3, HA3, HQ3⟩ := QI.one (w := w) (l := dgt n) ⟨Nw.trans H1.out H2.out.2.1, Nat.le_trans (Fr.size H1.out) H2.out.2.2, H2.out.1⟩ 10#8 10 rfl (by omega); have hap3 : ∀ ty, (appZ #[23, 23] ty #[.slice (some ⟨g2, 0, none⟩) k2' c2, .slice (some ⟨w2.heap.size, 0, none⟩) 1 1]).run Tryd.prog (w2.alloc (.cells #[.int .u8 10] 5)) = .ok (.slice (some ⟨g3, 0, none⟩) k3 c3) W3 := HA3.out))
    have HQ4 : Hid (QI w (lnT m.length ++ rgsT (m.take 0)) g3 k3 c3 W3) := by
      have := HQ3.out
      rw [← HLN.out] at this
      show QI _ _ _ _ _ _
      rw [List.take_zero, show rgsT [] = [] from rfl, List.append_nil]
      exact this
    clear HD1 HV H1 H2 HA3 HQ3 hap3
    go_upto_region 5 with fail
    go_loopg [4, 5] n (fun kx v i wr => ∃ (I g k c : Nat), I ≤ n ∧ n - I ≤ kx ∧ v = .slice (some ⟨g, 0, none⟩) k c ∧ i = .int .i64 I ∧ Hid (QI w (lnT m.length ++ rgsT (m.take I)) g k c wr))
    case atStart => exact ⟨0, g3, k3, c3, by omega, by omega, rfl, rfl, HQ4⟩
    case round =>
      obtain ⟨I, g, k, c', hI, hkx, rfl, rfl, HL⟩ := hrel
      by_cases hlt : I < n
      · have hlt' : I < m.length := by have := HLN.out; omega
        have hA := HAll.out m[I] (List.getElem_mem hlt')
        have hsn : lnT m.length ++ rgsT (m.take (I + 1)) = ((lnT m.length ++ rgsT (m.take I) ++ dgt m[I].1 ++ [10#8]) ++ dgt (m[I].2 - m[I].1)) ++ [10#8] := by
          rw [List.take_add_one, List.getElem?_eq_getElem hlt']
          show lnT m.length ++ rgsT (m.take I ++ [m[I]]) = _
          rw [rgsT_snoc, rgT, lnT, lnT, lnT]
          simp only [List.append_assoc]
        have hrl := HRL.out I
        have hd1 := dgt_short m[I].1 (by omega)
        have hd2 := dgt_short (m[I].2 - m[I].1) (by omega)
        have HSN := tHid hsn
        have HXC : Hid (∀ V, Nw w V → ∃ g o, a = some ⟨g, o, none⟩ ∧ V.cell? ⟨g, o + I * 2, none⟩ = some (.int .i64 (m[I].1 : Int)) ∧ V.cell? ⟨g, o + I * 2 + 1, none⟩ = some (.int .i64 (m[I].2 : Int))) := fun V hV => HI.out V hV I hlt'
        obtain ⟨F, hF⟩ : ∃ F, m[I].1 = F := ⟨_, rfl⟩
        obtain ⟨T, hT⟩ : ∃ T, m[I].2 = T := ⟨_, rfl⟩
        rw [hF, hT] at HSN HXC hA hd2
        rw [hF] at hd1
        obtain ⟨D, hD⟩ : ∃ D, T - F = D := ⟨_, rfl⟩
        rw [hD] at HSN hd2
        have hDi : (T : Int) - (F : Int) = (D : Int) := by omega
        have HDF := tHid (fun V => HD.out V F (by omega))
        have HDD := tHid (fun V => HD.out V D (by omega))
        obtain ⟨ga, oa, hal, x0, x1⟩ := HXC.out wr HL.out.nw
        subst hal
        generalize lnT m.length ++ rgsT (m.take I) = b0 at *
        clear hF hT hsn
        go_upto_region 8 with (first
          | (go_at_call 27; (with_reducible refine (HDF.out wr).mono ?_); rintro e w5 ⟨g5, k5, c5, rfl, H5⟩; obtain ⟨g6, k6, c6, W6, HA6, HQ6⟩ := (QI.more HL.out H5.out.2.1).add (.slice (some ⟨g5, 0, none⟩) k5 c5) (dgt F) (.inr ⟨g5, (fun h => h), Ow.slb H5.out.1⟩) (by omega); have hap6 : ∀ ty, (appZ #[23, 23] ty #[.slice (some ⟨g, 0, none⟩) k c', .slice (some ⟨g5, 0, none⟩) k5 c5]).run Tryd.prog w5 = .ok (.slice (some ⟨g6, 0, none⟩) k6 c6) W6 := HA6.out))
        obtain ⟨g7, k7, c7, W7, HA7, HQ7⟩ := HQ6.out.one 10#8 10 rfl (by rw [List.length_append]; omega)
        have hap7 : ∀ ty, (appZ #[23, 23] ty #[.slice (some ⟨g6, 0, none⟩) k6 c6, .slice (some ⟨W6.heap.size, 0, none⟩) 1 1]).run Tryd.prog (W6.alloc (.cells #[.int .u8 10] 5)) = .ok (.slice (some ⟨g7, 0, none⟩) k7 c7) W7 := HA7.out
        clear hap6 HA6 H5 HL HQ6 HA7 HDF x0 x1
        go_upto_region 9 with fail
        clear hap7
        have HSx : Hid (∀ V, Nw w V → V.cell? ⟨ga, oa + I * 2, none⟩ = some (.int .i64 (F : Int)) ∧ V.cell? ⟨ga, oa + I * 2 + 1, none⟩ = some (.int .i64 (T : Int))) := fun V hV => by
          obtain ⟨g', o', e, e1, e2⟩ := HXC.out V hV
          injection e with e
          injection e with e3 e4
          subst e3 e4
          exact ⟨e1, e2⟩
        have n7 : Nw w W7 := HQ7.out.nw
        have n7d : Nw w W7.drew := n7.drew
        have hQ7 := HQ7.out
        have hQ7d : QI w (b0 ++ dgt F ++ [10#8]) g7 k7 c7 W7.drew := hQ7.more ((Fr.refl _ _).drew)
        have hwD : IntKind.i64.wrap (D : Int) = (D : Int) := by rw [IntKind.wrap_i64]; omega
        have hl7 : (b0 ++ dgt F ++ [10#8]).length + (dgt D).length ≤ 200000000000000 := by simp only [List.length_append, List.length_singleton]; omega
        go_cut [4] from 31 to 44 (fun v wx => ∃ g k c, v = .slice (some ⟨g, 0, none⟩) k c ∧ Hid (QI w (b0 ++ dgt F ++ [10#8] ++ dgt D) g k c wx))
        case first =>
          clear HF HBL HLN HRL HXC HSN HQ4 HQ7 HI HAll HD
          go_region_held3 (fun V => V.cell? ⟨ga, oa + I * 2, none⟩ = some (.int .i64 (F : Int)) ∧ V.cell? ⟨ga, oa + I * 2 + 1, none⟩ = some (.int .i64 (T : Int)))
            ((refine HSx.out _ ?_; first | assumption | exact n7 | exact n7d))
            (first
              | (go_at_call 27; (with_reducible refine (HDD.out _).mono ?_); rintro e w8 ⟨g8, k8, c8, rfl, H8⟩; obtain ⟨g9, k9, c9, W9, HA9, HQ9⟩ := (QI.more hQ7d H8.out.2.1).add (.slice (some ⟨g8, 0, none⟩) k8 c8) (dgt D) (.inr ⟨g8, (fun h => h), Ow.slb H8.out.1⟩) hl7; have n8 : Nw w w8 := Nw.trans n7d H8.out.2.1; have n9 : Nw w W9 := QI.nw HQ9.out; have hap9 : ∀ ty, (appZ #[23, 23] ty #[.slice (some ⟨g7, 0, none⟩) k7 c7, .slice (some ⟨g8, 0, none⟩) k8 c8]).run Tryd.prog w8 = .ok (.slice (some ⟨g9, 0, none⟩) k9 c9) W9 := HA9.out)
              | (go_at_call 27; (with_reducible refine (HDD.out _).mono ?_); rintro e w8 ⟨g8, k8, c8, rfl, H8⟩; obtain ⟨g9, k9, c9, W9, HA9, HQ9⟩ := (QI.more hQ7 H8.out.2.1).add (.slice (some ⟨g8, 0, none⟩) k8 c8) (dgt D) (.inr ⟨g8, (fun h => h), Ow.slb H8.out.1⟩) hl7; have n8 : Nw w w8 := Nw.trans n7 H8.out.2.1; have n9 : Nw w W9 := QI.nw HQ9.out; have hap9 : ∀ ty, (appZ #[23, 23] ty #[.slice (some ⟨g7, 0, none⟩) k7 c7, .slice (some ⟨g8, 0, none⟩) k8 c8]).run Tryd.prog w8 = .ok (.slice (some ⟨g9, 0, none⟩) k9 c9) W9 := HA9.out))
          go_wp2_with fail
          go_meet
          exact ⟨g9, k9, c9, rfl, HQ9⟩
        case rest =>
        obtain ⟨g9, k9, c9, rfl, HQ9⟩ := hcut
        obtain ⟨wA, h⟩ : ∃ z, z = wc := ⟨_, rfl⟩
        subst h
        obtain ⟨gA, kA, cA, WA, HAA, HQA⟩ := HQ9.out.one 10#8 10 rfl (by simp only [List.length_append, List.length_singleton]; omega)
        have hapA : ∀ ty, (appZ #[23, 23] ty #[.slice (some ⟨g9, 0, none⟩) k9 c9, .slice (some ⟨wA.heap.size, 0, none⟩) 1 1]).run Tryd.prog (wA.alloc (.cells #[.int .u8 10] 5)) = .ok (.slice (some ⟨gA, 0, none⟩) kA cA) WA := HAA.out
        rw [← HSN.out] at HQA
        clear HQ9 HQ7 hQ7 hQ7d n7 n7d HAA HXC HDD HSx HF HI HD HAll HQ4
        go_wp2_with fail
        go_roundg (n - (I + 1))
        case measure => omega
        case rel => exact ⟨I + 1, gA, kA, cA, by omega, by omega, rfl, by first | rfl | (congr 1), HQA⟩
      · obtain rfl : n = I := by omega
        have HB0 : Hid (QI w (bdT m) g k c' wr) := by
          have := HL.out
          rw [List.take_of_length_le (by have := HLN.out; omega)] at this
          exact this
        clear HL HRL HI HAll HQ4 HD
        go_upto_region 11 with fail
        go_loopg [4] 512 (fun kx v wr => ∃ j g k c : Nat, padN ((bdT m).length + j) ≤ kx ∧ v = .slice (some ⟨g, 0, none⟩) k c ∧ Hid (j + padN ((bdT m).length + j) = padN (bdT m).length ∧ QI w (bdT m ++ List.replicate j 0#8) g k c wr))
        case atStart => exact ⟨0, g, k, c', by have := padN_lt ((bdT m).length + 0); omega, rfl, by rw [Nat.zero_add]; rfl, by rw [List.replicate_zero, List.append_nil]; exact HB0.out⟩
        case round =>
          obtain ⟨j, g5, k3, c3, hkx2, rfl, HJ⟩ := hrel
          obtain ⟨hj1, hj2⟩ := HJ.out
          obtain ⟨xs5, e5, _, q53, q54, _⟩ := id hj2.ow
          injection e5 with _ hk3 e53
          have hkc : k3 ≤ c3 := by omega
          have hcc : c3 < 9223372036854775808 := by omega
          clear e53 q53 q54
          rw [List.length_append, List.length_replicate] at hk3
          have hrem := rem512 k3
          by_cases hz : k3 % 512 = 0
          · have hp0 : padN ((bdT m).length + j) = 0 := padN_zero (by rw [← hk3]; exact hz)
            rw [hz] at hrem
            have HF2 := tHid (HF.out wr g5 k3 c3 (by
              rw [ptT, show padN (bdT m).length = j by omega]
              exact hj2))
            have hrem2 : (k3 : Int) % 512 = 0 := by omega
            clear HF HJ hj1 hj2 hk3 HB0
            go_wp2_with fail
            first | exact HF2.out | (go_ret; exact HF2.out)
          · have hps := padN_succ (p := (bdT m).length + j) (by rw [← hk3]; exact hz)
            have hb4 := HBL.out
            have hpl := padN_lt (bdT m).length
            obtain ⟨a2, k2x, c2x, W2, HA, HQ2⟩ := hj2.one 0#8 0 rfl (by rw [List.length_append, List.length_replicate]; omega)
            have hap2 : ∀ ty, (appZ #[23, 23] ty #[.slice (some ⟨g5, 0, none⟩) k3 c3, .slice (some ⟨wr.heap.size, 0, none⟩) 1 1]).run Tryd.prog (wr.alloc (.cells #[.int .u8 0] 5)) = .ok (.slice (some ⟨a2, 0, none⟩) k2x c2x) W2 := HA.out
            have HNX : Hid (j + 1 + padN ((bdT m).length + (j + 1)) = padN (bdT m).length ∧ QI w (bdT m ++ List.replicate (j + 1) 0#8) a2 k2x c2x W2) := by
              refine ⟨by rw [← Nat.add_assoc]; omega, ?_⟩
              rw [List.replicate_succ', ← List.append_assoc]
              exact HQ2.out
            have HMS : Hid (padN ((bdT m).length + (j + 1)) < padN ((bdT m).length + j)) := by show _ < _; rw [← Nat.add_assoc]; omega
            obtain ⟨R, hR⟩ : ∃ R, k3 % 512 = R := ⟨_, rfl⟩
            rw [hR] at hrem hz
            have hrem2 : (k3 : Int) % 512 = (R : Int) := by omega
            have hRz : ¬ ((R : Int) = 0) := by omega
            clear HF HJ hj1 hj2 hk3 HB0 HQ2 HA hps hpl hb4 hR
            go_wp2_with fail
            go_roundg (padN ((bdT m).length + (j + 1)))
            case measure => have := HMS.out; omega
            case rel => exact ⟨j + 1, a2, k2x, c2x, Nat.le_refl _, rfl, HNX⟩
end Go.Proofs.YtffhpoilifgcdaaDoor
