import Derived.Laws.CopyOwn
import Derived.Test.YtlenihpbhlfcoaaGreatDoorUap
set_option maxHeartbeats 8000000
set_option maxRecDepth 100000
set_option linter.unusedSimpArgs false
set_option linter.unusedVariables false
namespace Go.Proofs.YtlenihpbhlfcoaaGreatDoor
open Go.RowKit
def cpyW (tys : Array TypeId) (ty : TypeId) (args : Array Value) : Sem Value := Builtin.copy_ tys ty args
theorem cpyW_fold (tys : Array TypeId) (ty : TypeId) (args : Array Value) : Builtin.copy_ tys ty args = cpyW tys ty args := rfl
theorem sizeB1 : (Tryz.prog.info? 5).map (·.size) = some 1 := by kernel_rfl
theorem lay_none (o : List By) (F : Nat) : lay o F [] = o := by
 unfold lay;simp
theorem cpy_own (V : World) (g S : Nat) (o : List By) (hO : Ow g (.slice (some ⟨g, 0, none⟩) S S) o V) (F k kc : Nat) (hF : F + k ≤ S) (a' : Option Addr) (m' c' : Nat) (q : List By) (hq : Sl (fun _ => False) (.slice a' m' c') q V) (hk : k ≤ q.length) :
  ∃ W, (∀ ty, (cpyW #[22, 22] ty #[.slice (some ⟨g, F, none⟩) k kc, .slice a' m' c']).run Tryz.prog V = .ok (.int .i64 k) W) ∧ Ow g (.slice (some ⟨g, 0, none⟩) S S) (lay o F (q.take k)) W ∧ Fr (fun k => k = g) V W := by
 obtain ⟨hqn, _, _⟩ := slx_len hq;by_cases hk0 : k = 0
 ·subst hk0;refine ⟨V, fun ty => ?_, ?_, Fr.refl _ _⟩
  ·exact run_copy_none V 22 22 ty 5 _ a' 0 kc m' c' Tryz.underlying22 sizeB1 (Nat.min_eq_right (Nat.zero_le _))
  ·rw [List.take_zero, lay_none]; exact hO
 ·obtain ⟨xs, e, h2, h3, h4, h5⟩ := hO;injection e with _ eo e;have hol : o.length = S := eo.symm;have hxl : xs.length = S := e.symm;have hxo : xs = o := by rw [hol, ← hxl, List.take_length] at h2; exact h2
  subst hxo;have hpl : (q.take k).length = k := by rw [List.length_take]; omega
  obtain ⟨ad, rfl, hsrc⟩ : ∃ ad, a' = some ad ∧ ∀ j v, ((q.take k).map bv)[j]? = some v → V.cell? (ad.add j) = some v := by
   rcases hq with ⟨a'', e, rfl⟩ | ⟨g', _, o', c'', e, _, _, hr⟩
   ·simp at hk; omega
   ·injection e with e;refine ⟨_, e, fun j v hj => ?_⟩;rw [add_addr];simp only [List.getElem?_map, Option.map_eq_some_iff] at hj;obtain ⟨x, hx, rfl⟩ := hj;exact (hr.take k).at j x hx
  have hrun := fun ty => run_copy_row (P := Tryz.prog) V 22 22 ty 5 g F k kc ad m' c' (xs.map bv).toArray 5 ((q.take k).map bv) Tryz.underlying22 sizeB1 h5 (by rw [List.length_map, hpl]; exact (Nat.min_eq_right (by omega)).symm) hsrc (by simp only [List.length_map, List.size_toArray, hpl]; omega) (bv_one _)
  refine ⟨V.setRow g ((xs.map bv).toArray.toList.take F ++ (q.take k).map bv ++ (xs.map bv).toArray.toList.drop (F + k)).toArray, fun ty => ?_, ?_, (Fr.refl _ _).setRow _ _ (.inl rfl)⟩
  ·have := hrun ty;rw [List.length_map, hpl] at this;exact this
  ·have hll := lay_len xs F (q.take k) (by rw [hpl]; omega);refine ⟨lay xs F (q.take k), by rw [hll, hol], List.take_length, Nat.le_refl _, by rw [hll]; exact h4, ?_⟩;have := setRow_heap V g _ ((xs.map bv).toArray.toList.take F ++ (q.take k).map bv ++ (xs.map bv).toArray.toList.drop (F + k)).toArray 5 _ h5;show _ = _;rw [this];congr 2;unfold lay;rw [hpl];simp [List.map_take, List.map_drop]
theorem make_full (w : World) (n : Nat) (hn : n ≤ 200000000000000) : ∃ W, (Instr.makeSlice 22 (.int .i64 n) (.int .i64 n)).run Tryz.prog w = .ok (.slice (some ⟨w.heap.size, 0, none⟩) n n) W ∧ Ow w.heap.size (.slice (some ⟨w.heap.size, 0, none⟩) n n) (List.replicate n 0#8) W ∧ Nw w W := by
 obtain ⟨i, hi, hz, hs, hby⟩ := infoB;have h := run_make (P := Tryz.prog) w 22 5 i _ Tryz.underlying22 hi hz .i64 .i64 n n (by omega) (by omega) (by rw [hby]; omega) (by omega);simp only [Int.toNat_natCast, hs, Nat.mul_one, madeB] at h;refine ⟨_, h, ⟨List.replicate n 0#8, by simp, by simp, by simp, by simp; omega, ?_⟩, (Fr.refl _ _).alloc _⟩;show (w.heap.push _)[w.heap.size]? = _;simp
def SpA (w : World) (d : List By) (l : List Rg) (s : Int) (e : Ending) (V : World) : Prop := ∃ a m c, e = .returned (.tuple #[.slice a m c, .int .i64 (if okS d l s then 0 else 1)]) ∧ Hid (Nw w V ∧ NewB w (.slice a m c) (if okS d l s then sprd d l s else []) V)
theorem SpA.bad {w : World} {d : List By} {l : List Rg} {s : Int} {V : World} (h : okS d l s = false) (hN : Nw w V) : SpA w d l s (.returned (.tuple #[.slice none 0 0, .int .i64 1])) V := by
 refine ⟨none, 0, 0, by rw [h]; rfl, hN, ?_⟩;rw [h]; exact Mine.nil _ _
theorem SpA.ok {w : World} {d : List By} {l : List Rg} {s : Int} {V : World} (h : okS d l s = true) (hN : Nw w V) (g c : Nat) (hg : w.heap.size ≤ g) (m : Nat) (hO : Ow g (.slice (some ⟨g, 0, none⟩) m c) (sprd d l s) V) : SpA w d l s (.returned (.tuple #[.slice (some ⟨g, 0, none⟩) m c, .int .i64 0])) V := by
 refine ⟨some ⟨g, 0, none⟩, m, c, by rw [h]; rfl, hN, ?_⟩;rw [h]; exact .inr ⟨g, by omega, hO⟩
theorem okS_iff {d : List By} {l : List Rg} {s : Int} : okS d l s = true ↔ s ≤ 4194304 ∧ vld l s = true ∧ hld l = d.length := by
 rw [okS, Bool.and_eq_true, Bool.and_eq_true, decide_eq_true_iff, decide_eq_true_iff]
theorem okS_no {d : List By} {l : List Rg} {s : Int} (h : ¬ (s ≤ 4194304 ∧ vld l s = true ∧ hld l = d.length)) : okS d l s = false := by
 cases hv : okS d l s with
 | false => rfl
 | true => exact absurd (okS_iff.1 hv) h
theorem Sl.rest {X : Nat → Prop} {g o n c : Nat} {l : List By} {w : World} (h : Sl X (.slice (some ⟨g, o, none⟩) n c) l w) (F : Nat) (h2 : F ≤ n) (hc : F < c) : Sl X (.slice (some ⟨g, o + F, none⟩) (n - F) (c - F)) (l.drop F) w := by
 have := h.part F n h2 (Nat.le_refl _) hc;rw [List.take_of_length_le (by obtain ⟨e, _, _⟩ := slx_len h; rw [List.length_drop]; omega)] at this;exact this
attribute [local go_sem ↓] cpyW_fold
theorem spread_any {Y : Nat → Prop} (w : World) (a : Option Addr) (n c : Nat) (d : List By) (hd : Old w (.slice a n c) d) (hn : n ≤ 140737488351232) (a2 : Option Addr) (n2 c2 : Nat) (l : List Rg) (hl : SlR RG Y (.slice a2 n2 c2) l w) (s : Int) (hs : -9223372036854775808 ≤ s ∧ s ≤ 9223372036854775807) :
  Calls Tryz.prog 24 #[.slice a n c, .slice a2 n2 c2, .int .i64 s] w (SpA w d l s) := by
 refine asP fun P hP => ?_
 obtain ⟨hdn, k1, k2⟩ := slx_len hd;obtain ⟨hln, k3, k4⟩ := slg_len hl;have HFb : Hid (∀ V, ¬ (s ≤ 4194304 ∧ vld l s = true ∧ hld l = d.length) → Nw w V → P (.returned (.tuple #[.slice none 0 0, .int .i64 1])) V) := fun V hb hV => by rw [hP]; exact SpA.bad (okS_no hb) hV
 by_cases hsb : 4194304 < s
 ·have HF : Hid (P (.returned (.tuple #[.slice none 0 0, .int .i64 1])) w) := HFb.out w (fun h => by omega) (Fr.refl _ _);clear HFb hP hd hdn hl hln;go_enter Tryz.func24, Tryz.ntmps24
  go_wp2_with fail
  first | exact HF.out | (go_ret; exact HF.out)
 ·have HV := tHid (valid_any w a2 n2 c2 l hl s);cases hv : vld l s with
  | false =>
   have HF : Hid (∀ V, Nw w V → P (.returned (.tuple #[.slice none 0 0, .int .i64 1])) V) := fun V hV => HFb.out V (fun h => by rw [hv] at h; exact Bool.false_ne_true h.2.1) hV
   rw [hv] at HV;clear HFb hP hd hdn hl hln hv;go_enter Tryz.func24, Tryz.ntmps24
   go_wp2_with (first
    | (go_at_call 22; with_reducible refine HV.out.mono ?_; rintro e w1 ⟨rfl, H1⟩; have H1 := tHid H1))
   first | exact HF.out _ H1.out | (go_ret; exact HF.out _ H1.out)
  | true =>
   obtain ⟨hs0, _, hvE⟩ := vld_iff.1 hv;obtain ⟨S, hS⟩ : ∃ S : Nat, s = S := ⟨s.toNat, by omega⟩;subst hS;have HA : Hid (∀ x ∈ l, 0 ≤ x.1 ∧ x.1 ≤ x.2 ∧ x.2 ≤ (S : Int)) := fun x hx => by have := vlE_all hvE (Int.le_refl _) x hx; omega
   have hp := hld_le hvE (by omega);obtain ⟨H, hH⟩ : ∃ H : Nat, hld l = H := ⟨(hld l).toNat, by omega⟩;have HHE : Hid (∀ V, Nw w V → Calls Tryz.prog 32 #[.slice a2 n2 c2] V fun e w' => e = .returned (.int .i64 (H : Int)) ∧ Nw V w') := fun V hV => by rw [← hH]; exact held_any V a2 n2 c2 l (hl.nw hV) (S : Int) (by omega) hvE
   by_cases hHn : H = n
   ·subst hHn;have hok : okS d l (S : Int) = true := okS_iff.2 ⟨by omega, hv, by omega⟩;have HF : Hid (∀ V g m c, Nw w V → w.heap.size ≤ g → Ow g (.slice (some ⟨g, 0, none⟩) m c) (sprd d l (S : Int)) V → P (.returned (.tuple #[.slice (some ⟨g, 0, none⟩) m c, .int .i64 0])) V) := fun V g m c h1 h2 h3 => by rw [hP]; exact SpA.ok hok h1 g c h2 m h3
    have HMK : Hid (∀ V, Nw w V → ∃ W, (Instr.makeSlice 22 (.int .i64 (S : Int)) (.int .i64 (S : Int))).run Tryz.prog V = .ok (.slice (some ⟨V.heap.size, 0, none⟩) S S) W ∧ Hid (Ow V.heap.size (.slice (some ⟨V.heap.size, 0, none⟩) S S) (List.replicate S 0#8) W ∧ Nw V W)) := fun V hV => by
     obtain ⟨W, q1, q2, q3⟩ := make_full V S (by omega);exact ⟨W, q1, q2, q3⟩
    have HPT : Hid (∀ i, 0 ≤ hld (l.take i) ∧ hld (l.take i) ≤ (H : Int)) := fun i => by have := hld_part hvE hs0 i; omega
    have HSP : Hid (∀ i (h : i < l.length) (K F T : Nat), hld (l.take i) = K → l[i].1 = F → l[i].2 = T → spr (List.replicate S 0#8) d (l.take (i + 1)) = lay (spr (List.replicate S 0#8) d (l.take i)) F ((d.drop K).take (T - F)) ∧ hld (l.take (i + 1)) = (K : Int) + ((T : Int) - (F : Int))) := fun i h K F T h1 h2 h3 => by
     have hsn : l.take (i + 1) = l.take i ++ [l[i]] := by rw [List.take_add_one, List.getElem?_eq_getElem h]; rfl
     have hsum := sumN_hld (l.take i) (fun x hx => (HA.out x (List.mem_of_mem_take hx)).2.1);rw [h1] at hsum;rw [hsn, spr_snoc, hld_snoc, h1, h2, h3];refine ⟨?_, rfl⟩;rw [Int.toNat_natCast, show ((T : Int) - (F : Int)).toNat = T - F by omega];congr 3;omega
    have HSD : Hid (∀ V, Nw w V → Sl (fun k => w.heap.size ≤ k) (.slice a H c) d V) := fun V hV => hd.nw hV
    have HI := tHid hl.inG;have HLN := tHid hln;have HDN := tHid hdn;rw [hv] at HV;clear HFb hP hd hdn hl hln hv hvE hp hH hok;have hs4 : ¬ (4194304 : Int) < (S : Int) := hsb;go_enter Tryz.func24, Tryz.ntmps24;go_upto_region 3 with (first
     | (go_at_call 22; with_reducible refine HV.out.mono ?_; rintro e w1 ⟨rfl, H1⟩; have H1 := tHid H1)
     | (go_at_call 32; with_reducible refine (HHE.out w1 H1.out).mono ?_; rintro e w2 ⟨rfl, H2⟩; have H2 := tHid H2; obtain ⟨W3, hmk, H3⟩ := HMK.out w2 (H1.out.trans H2.out)))
    go_upto_region 4 with fail
    have HN3 : Hid (Nw w W3) := (H1.out.trans H2.out).trans H3.out.2;have hg3 : w.heap.size ≤ w2.heap.size := (H1.out.trans H2.out).size;have HO3 := tHid H3.out.1;generalize w2.heap.size = g at *;clear HV HHE HMK H1 H2 H3 hmk;go_upto_region 5 with fail;go_loopg [0, 31] n2 (fun kx v i wr => ∃ (I K m c' : Nat) (a' : Option Addr), I ≤ n2 ∧ n2 - I ≤ kx ∧ v = .slice a' m c' ∧ i = .int .i64 I ∧ Hid (Nw w wr ∧ hld (l.take I) = K ∧ Sl (fun k => w.heap.size ≤ k) (.slice a' m c') (d.drop K) wr ∧ Ow g (.slice (some ⟨g, 0, none⟩) S S) (spr (List.replicate S 0#8) d (l.take I)) wr))
    case atStart => exact ⟨0, 0, H, c, a, by omega, by omega, rfl, rfl, HN3.out, rfl, HSD.out _ HN3.out, HO3.out⟩
    case round =>
     obtain ⟨I, K, m, c', a', hI, hkx, rfl, rfl, HL⟩ := hrel;obtain ⟨hN, hK, hSl, hO⟩ := HL.out;by_cases hlt : I < n2
     ·have hlt' : I < l.length := by have := HLN.out; omega
      obtain ⟨gl, ol, rfl, x0, x1⟩ := HI.out wr hN I hlt';have hA := HA.out l[I] (List.getElem_mem hlt');obtain ⟨F, hF⟩ : ∃ F : Nat, l[I].1 = F := ⟨l[I].1.toNat, by omega⟩;obtain ⟨T, hT⟩ : ∃ T : Nat, l[I].2 = T := ⟨l[I].2.toNat, by omega⟩;have hFT : F ≤ T := by omega
      have hTn : T ≤ S := by omega
      obtain ⟨q1, q2⟩ := HSP.out I hlt' K F T hK hF hT;have hp1 := HPT.out (I + 1);obtain ⟨hml, hmc, hcc⟩ := slx_len hSl;rw [List.length_drop, HDN.out] at hml;obtain ⟨k, hk⟩ : ∃ k, T - F = k := ⟨_, rfl⟩;have hkm : k ≤ m := by omega
      rw [hF] at x0;rw [hT] at x1;rw [hk] at q1;obtain ⟨V, hV⟩ : ∃ V, wr.alloc (.cells #[.int .i64 (F : Int), .int .i64 (T : Int)] 54) = V := ⟨_, rfl⟩;have hVN : Nw wr V := by rw [← hV]; exact (Fr.refl _ _).alloc _
      have hVh : V.heap[wr.heap.size]? = some (.cells #[.int .i64 (F : Int), .int .i64 (T : Int)] 54) := by rw [← hV]; exact nHeap _ _
      have v0 : V.cell? ⟨wr.heap.size, 0, none⟩ = some (.int .i64 (F : Int)) := by unfold World.cell?; rw [hVh]; rfl
      have v1 : V.cell? ⟨wr.heap.size, 1, none⟩ = some (.int .i64 (T : Int)) := by unfold World.cell?; rw [hVh]; rfl
      have hql : k ≤ (d.drop K).length := by rw [List.length_drop, HDN.out]; omega
      have HCP : Hid (∀ F' k' kc, k' = k → (F' = F ∨ k = 0 ∧ F' = 0) → ∃ W, (∀ ty, (cpyW #[22, 22] ty #[.slice (some ⟨g, F', none⟩) k' kc, .slice a' m c']).run Tryz.prog V = .ok (.int .i64 k) W) ∧ Hid (Nw w W ∧ Sl (fun k => w.heap.size ≤ k) (.slice a' m c') (d.drop K) W ∧ Ow g (.slice (some ⟨g, 0, none⟩) S S) (spr (List.replicate S 0#8) d (l.take (I + 1))) W)) := fun F' k' kc hk' hF' => by
       subst hk';obtain ⟨W, r1, r2, r3⟩ := cpy_own V g S _ (hO.nw hVN) F' k' kc (by omega) a' m c' (d.drop K) ((hSl.nw hVN).mono (fun _ h => h.elim)) hql;refine ⟨W, r1, (hN.trans hVN).then r3 (fun i hi => .inr (by omega)), (hSl.nw hVN).kept r3 (fun i hi => by omega), ?_⟩;rw [q1];rcases hF' with rfl | ⟨e1, e2⟩
       ·exact r2
       ·subst e1 e2;rw [List.take_zero, lay_none] at r2 ⊢;exact r2
      have HK2 : Hid (hld (l.take (I + 1)) = ((K + k : Nat) : Int)) := by show _ = _; rw [q2]; omega
      have hTc : (T : Int) ≤ (S : Int) := by omega
      have e1 : (F : Int) ≤ (T : Int) := by omega
      have e6 : (T : Int) - (F : Int) = (k : Int) := by omega
      clear HL hN hO hSl hA hF hT q1 q2 hp1 HPT HSP HI HA hVN hVh HSD HN3 HO3 hK hql;go_upto_region 7 with fail;clear hV;go_cut [11] from 35 to 42 (fun x wx => x = .int .i64 (k : Int) ∧ Hid (Nw w wx ∧ Sl (fun k => w.heap.size ≤ k) (.slice a' m c') (d.drop K) wx ∧ Ow g (.slice (some ⟨g, 0, none⟩) S S) (spr (List.replicate S 0#8) d (l.take (I + 1))) wx))
      case first =>
       by_cases hc : F < S
       ·obtain ⟨C1, hC1⟩ : ∃ C1, S - F = C1 := ⟨_, rfl⟩;obtain ⟨W, hcp, HW⟩ := HCP.out F k C1 rfl (.inl rfl);have e3 : ¬ S ≤ F := by omega
        have e5 : ¬ S = F := by omega
        clear HCP HF HLN HDN HK2
        go_wp2_with fail
        go_meet
        exact ⟨rfl, HW⟩
       ·obtain rfl : F = S := by omega
        obtain rfl : T = F := by omega
        obtain rfl : k = 0 := by omega
        obtain ⟨W, hcp, HW⟩ := HCP.out 0 0 0 rfl (.inr ⟨rfl, rfl⟩);clear HCP HF HLN HDN HK2
        go_wp2_with fail
        go_meet
        exact ⟨rfl, HW⟩
      case rest =>
      obtain ⟨rfl, HX⟩ := hcut;clear HCP v0 v1;have e7 : (k : Int) ≤ (m : Int) := by omega
      have HX1 := tHid HX.out.1;have HX3 := tHid HX.out.2.2;by_cases hc : k < c'
      ·obtain ⟨gd, od, rfl⟩ : ∃ gd od, a' = some ⟨gd, od, none⟩ := by
        rcases HX.out.2.1 with ⟨_, e, _⟩ | ⟨gb, _, ob, _, e, _⟩
        ·injection e with e1 e2 e3; omega
        ·injection e with e1 e2 e3; exact ⟨gb, ob, e1⟩
       have hrest := HX.out.2.1.rest k hkm hc;rw [List.drop_drop] at hrest;have HR := tHid hrest;obtain ⟨M1, hM1⟩ : ∃ M1, m - k = M1 := ⟨_, rfl⟩;obtain ⟨C1, hC1⟩ : ∃ C1, c' - k = C1 := ⟨_, rfl⟩;rw [hM1, hC1] at HR;have e3 : ¬ c' ≤ k := by omega
       have e5 : ¬ c' = k := by omega
       have e8 : (m : Int) - (k : Int) = (M1 : Int) := by omega
       have e9 : (m : Int) ≤ (c' : Int) := by omega
       clear HX hrest HF HLN HDN
       go_wp2_with fail
       go_roundg (n2 - (I + 1))
       case measure => omega
       case rel => exact ⟨I + 1, K + k, M1, C1, some ⟨gd, od + k, none⟩, by omega, by omega, rfl, by first | rfl | (congr 1), HX1.out, HK2.out, HR.out, HX3.out⟩
      ·obtain rfl : m = k := by omega
       obtain rfl : c' = m := by omega
       have HR : Hid (Sl (fun k => w.heap.size ≤ k) (.slice a' 0 0) (d.drop (K + c')) wc) := .inl ⟨a', rfl, List.drop_eq_nil_of_le (by rw [HDN.out]; omega)⟩;cases a' with
       | none =>
        have h0 : c' = 0 := by
         rcases HX.out.2.1 with ⟨_, e, _⟩ | ⟨gb, _, ob, _, e, _⟩
         ·injection e with e1 e2 e3
         ·injection e with e1 e2 e3; cases e1
        subst h0;clear HX HF HLN HDN
        go_wp2_with fail
        go_roundg (n2 - (I + 1))
        case measure => omega
        case rel => exact ⟨I + 1, K + 0, 0, 0, none, by omega, by omega, rfl, by first | rfl | (congr 1), HX1.out, HK2.out, HR.out, HX3.out⟩
       | some ad =>
        clear HX HF HLN HDN
        go_wp2_with fail
        go_roundg (n2 - (I + 1))
        case measure => omega
        case rel => exact ⟨I + 1, K + c', 0, 0, some ad, by omega, by omega, rfl, by first | rfl | (congr 1), HX1.out, HK2.out, HR.out, HX3.out⟩
     ·have HF2 := tHid (HF.out wr g S S hN hg3 (by rw [List.take_of_length_le (by have := HLN.out; omega)] at hO; exact hO));obtain rfl : I = n2 := by omega
      clear HL hN hO hSl HPT HSP HI HA HSD HN3 HO3 HF
      go_wp2_with fail
      first | exact HF2.out | (go_ret; exact HF2.out)
   ·have HF : Hid (∀ V, Nw w V → P (.returned (.tuple #[.slice none 0 0, .int .i64 1])) V) := fun V hV => HFb.out V (fun h => by have := h.2.2; omega) hV
    have hni : ¬ ((H : Int) = (n : Int)) := by omega
    have hs4 : ¬ (4194304 : Int) < (S : Int) := hsb;rw [hv] at HV;clear HFb hP hd hdn hl hln hv hvE hp hH HA;go_enter Tryz.func24, Tryz.ntmps24
    go_wp2_with (first
     | (go_at_call 22; with_reducible refine HV.out.mono ?_; rintro e w1 ⟨rfl, H1⟩; have H1 := tHid H1)
     | (go_at_call 32; with_reducible refine (HHE.out w1 H1.out).mono ?_; rintro e w2 ⟨rfl, H2⟩; have H2 := tHid H2))
    first | exact HF.out _ (H1.out.trans H2.out) | (go_ret; exact HF.out _ (H1.out.trans H2.out))
end Go.Proofs.YtlenihpbhlfcoaaGreatDoor
