import Derived.Test.YtlenihpbhlfcoaaGreatDoorUbx
import Derived.Test.YtlenihpbhlfcoaaGreatDoorUcb
set_option maxHeartbeats 8000000
set_option maxRecDepth 100000
set_option linter.unusedSimpArgs false
set_option linter.unusedVariables false
namespace Go.Proofs.YtlenihpbhlfcoaaGreatDoor
def CnP (y : It) : Prop := y.kind = 2 → 0 ≤ y.size ∧ (y.sparse = false → y.size = (y.held : Int)) ∧ (y.sparse = true → vld y.map y.size = true ∧ hld y.map ≤ (y.held : Int))
theorem kdR_data {h : Hr} {nm : ByteArray} (hk : kdR h nm = 2) : hasD h.typ = true := by
 unfold kdR at hk;by_cases h1 : h.typ = 48#8
 ·rw [h1]; rfl
 rw [if_neg h1] at hk;by_cases h2 : h.typ = 49#8
 ·rw [if_pos h2] at hk; cases hk
 rw [if_neg h2] at hk;by_cases h3 : h.typ = 50#8
 ·rw [if_pos h3] at hk; cases hk
 rw [if_neg h3] at hk;by_cases h4 : h.typ = 53#8
 ·rw [if_pos h4] at hk; cases hk
 rw [if_neg h4] at hk;by_cases h5 : h.typ = 55#8
 ·rw [h5]; rfl
 rw [if_neg h5] at hk;by_cases h6 : h.typ = 83#8 ∧ h.form = 3
 ·rw [h6.1]; rfl
 rw [if_neg h6] at hk;cases hk
theorem bdR_con {s : List By} {h : Hr} {P : List Pr} {x y : It} {l : List Rg} {w : Int} {o L : Nat} (hs : x.sparse = false) (hx : isOl h = false → x.kind = 2 → w = (x.held : Int)) (hp : bdR s h P x l w o = .got y L) : CnP y := by
 unfold bdR at hp;cases hk : tkR s o x.held with
 | none => rw [hk] at hp; cases hp
 | some z =>
  obtain ⟨d, M⟩ := z;have hl := tkR_len hk;rw [hk] at hp;simp only at hp;split at hp
  ·split at hp
   ·rename_i h1;injection hp with h2 h3;subst h2;intro hk2;have hk3 : x.kind = 2 := hk2;refine ⟨?_, (fun h => by cases h), fun _ => ?_⟩
    ·show 0 ≤ (if x.kind = 2 then w else 0); rw [if_pos hk3]; exact (vld_iff.1 h1.1).1
    ·show vld l (if x.kind = 2 then w else 0) = true ∧ hld l ≤ (x.held : Int);rw [if_pos hk3];exact ⟨h1.1, by rw [h1.2, hl]; exact Int.le_refl _⟩
   ·cases hp
  ·rename_i hol;split at hp
   ·split at hp
    ·cases hp
    ·split at hp
     ·cases hp
     ·split at hp
      ·rename_i h1;injection hp with h2 h3;subst h2;intro hk2;refine ⟨(vld_iff.1 h1.1).1, fun h => (by cases h), fun _ => ⟨h1.1, ?_⟩⟩;show hld (rgL (rdT d).1) ≤ (x.held : Int);rw [h1.2, List.length_drop, hl];omega
      ·cases hp
   ·injection hp with h2 h3;subst h2;intro hk2;have hk3 : x.kind = 2 := hk2;have hw := hx (by simpa using hol) hk3;refine ⟨?_, fun _ => ?_, fun h => ?_⟩
    ·show 0 ≤ (if x.kind = 2 then w else 0); rw [if_pos hk3, hw]; omega
    ·show (if x.kind = 2 then w else 0) = (x.held : Int); rw [if_pos hk3, hw]
    ·have h : x.sparse = true := h;rw [hs] at h;cases h
theorem enR_con {s : List By} {h : Hr} {G : List Pr} {A : Ah} {y : It} {L : Nat} (hp : enR s h G A = .got y L) : CnP y := by
 unfold enR at hp;split at hp
 ·cases hp
 split at hp
 ·cases hp
 split at hp
 ·cases hp
 split at hp
 ·cases hp
 split at hp
 ·rename_i hol;split at hp
  ·cases hp
  ·split at hp
   ·cases hp
   ·exact bdR_con rfl (fun h2 => by rw [hol] at h2; cases h2) hp
 ·refine bdR_con rfl (fun _ hk => ?_) hp;show _ = (((if hasD h.typ = true then (nbP (hdP G A) kSize h.size.toNat).1 else 0) : Nat) : Int);rw [if_pos (kdR_data hk)]
theorem cor_con {s : List By} {G : List Pr} {A : Ah} {y : It} {L : Nat} (hp : cor s G A = .got y L) : CnP y := by
 unfold cor at hp
 repeat' split at hp
 all_goals first
  | (cases hp; done)
  | exact absurd hp psR_not
  | exact enR_con hp
theorem nx_con {b : List By} {p : Nat} {G : List Pr} {x : It} {a : Nat} {G' : List Pr} (h : nx b p G ah0 none = .more x a G') : CnP x := by
 obtain ⟨hd, A2, fr2, x0, L, r1, r2, r3, r4, _⟩ := nx_more _ (Nat.le_refl _) h;have := cor_con r3;subst r4;exact this
def lstP (p : Nat) (l : List It) : Nat → Nat
 | 0 => p
 | i + 1 => match l[i]? with
  | some x => x.next
  | none => 0
theorem rd_places {b : List By} : ∀ (k : Nat) {p : Nat} {G : List Pr}, b.length - p ≤ k → p ≤ b.length → p % 512 = 0 →
  (∀ i x, (rdR b p G).1[i]? = some x → Plc b (lstP p (rdR b p G).1 i) x x.next ∧ CnP x) ∧ (∀ i, i ≤ (rdR b p G).1.length → lstP p (rdR b p G).1 i % 512 = 0) ∧ ((rdR b p G).2.2.1 = 0 → lstP p (rdR b p G).1 (rdR b p G).1.length ≤ (rdR b p G).2.1) := by
 intro k;have last : ∀ {p : Nat} {G : List Pr}, p ≤ b.length → p % 512 = 0 → (∀ x a G', nx b p G ah0 none ≠ .more x a G') → (∀ i x, (rdR b p G).1[i]? = some x → Plc b (lstP p (rdR b p G).1 i) x x.next ∧ CnP x) ∧ (∀ i, i ≤ (rdR b p G).1.length → lstP p (rdR b p G).1 i % 512 = 0) ∧ ((rdR b p G).2.2.1 = 0 → lstP p (rdR b p G).1 (rdR b p G).1.length ≤ (rdR b p G).2.1) := by
  intro p G hp hm hno;have hrb := rd_bound (b := b) _ (p := p) (G := G) (Nat.le_refl _) hp;have he : (rdR b p G).1 = [] := by
   cases hc : nx b p G ah0 none with
   | more x a G' => exact absurd hc (hno x a G')
   | bad a e G' => rw [rdR_bad hc]
   | fin a G' => rw [rdR_fin hc]
  rw [he] at hrb ⊢;refine ⟨fun i x h => by simp at h, fun i hi => ?_, fun h => ?_⟩
  ·simp only [List.length_nil] at hi;obtain rfl : i = 0 := by omega
   exact hm
  ·have := hrb.2.2 h;simp only [List.length_nil] at this ⊢;show p ≤ _;omega
 induction k with
 | zero =>
  intro p G hk hp hm;exact last hp hm (fun x a G' hc => by have := nx_end hc; omega)
 | succ k ih =>
  intro p G hk hp hm;cases hc : nx b p G ah0 none with
  | fin a G' => exact last hp hm (fun x a G' h => by rw [hc] at h; cases h)
  | bad a e G' => exact last hp hm (fun x a G' h => by rw [hc] at h; cases h)
  | more x a G' =>
   have q := nx_end hc;have hpl := nx_plc hc;have hcn := nx_con hc;have hxa := hpl.end_;obtain ⟨i1, i2, i3⟩ := ih (p := a) (G := G') (by omega) q.2.1 (by omega);rw [rdR_more hc];have hsh : ∀ i, lstP p (x :: (rdR b a G').1) (i + 1) = lstP a (rdR b a G').1 i := fun i => by
    cases i with
    | zero => show x.next = a; exact hxa
    | succ i => show (match (x :: (rdR b a G').1)[i + 1]? with | some x => x.next | none => 0) = (match (rdR b a G').1[i]? with | some x => x.next | none => 0); rw [List.getElem?_cons_succ]
   refine ⟨fun i y hy => ?_, fun i hi => ?_, fun h => ?_⟩
   ·cases i with
    | zero =>
     simp only [List.getElem?_cons_zero, Option.some.injEq] at hy;subst hy;exact ⟨by rw [hxa]; exact hpl, hcn⟩
    | succ i =>
     simp only [List.getElem?_cons_succ] at hy;rw [hsh];exact i1 i y hy
   ·cases i with
    | zero => exact hm
    | succ i =>
     rw [hsh];exact i2 i (by simp only [List.length_cons] at hi; omega)
   ·simp only [List.length_cons];rw [hsh];exact i3 h
theorem vlE_each {s : Int} : ∀ {l : List Rg} {e : Int}, 0 ≤ e → vlE s e l = true → ∀ x ∈ l, 0 ≤ x.1 ∧ x.1 ≤ x.2 ∧ x.2 ≤ s := by
 intro l
 induction l with
 | nil => intro e _ _ x hx; cases hx
 | cons y l ih =>
  intro e he h x hx;obtain ⟨h1, h2, h3, h4⟩ := vlE_cons.1 h;rcases List.mem_cons.1 hx with rfl | hx
  ·exact ⟨by omega, h2, h3⟩
  ·exact ih (by omega) h4 x hx
theorem sprd_len {d : List By} {l : List Rg} {s : Int} (h : vld l s = true) : (sprd d l s).length = s.toNat := by
 obtain ⟨h0, _, h2⟩ := vld_iff.1 h;unfold sprd;rw [spr_len]
 ·rw [List.length_replicate]
 ·intro x hx;obtain ⟨a1, a2, a3⟩ := vlE_each (Int.le_refl 0) h2 x hx;rw [List.length_replicate];exact ⟨a1, a2, by omega⟩
theorem okS_last {d : List By} {l : List Rg} {s : Int} (hs : s ≤ 4194304) (hv : vld l s = true) (h0 : 0 ≤ hld l) (hd : hld l ≤ (d.length : Int)) : okS (d.drop (d.length - (hld l).toNat)) l s = true := by
 refine okS_iff.2 ⟨hs, hv, ?_⟩;rw [List.length_drop];omega
structure Pc (b : List By) (p : Nat) (x : It) : Prop where
 frm : p ≤ x.frm
 head : x.frm ≤ x.head
 data : x.head < x.data
 next : x.data ≤ x.next
 fit : x.next ≤ b.length
 m1 : x.frm % 512 = 0
 m2 : x.head % 512 = 0
 m3 : x.data % 512 = 0
 m4 : x.next % 512 = 0
 h1 : x.held ≤ x.next - x.data
 h2 : x.next - x.data < x.held + 512
 cn : CnP x
theorem places_pure {b : List By} {L : List Ix} {a E : Nat} {G : List Pr} (h : rdR b 0 [] = (L.map (·.x), a, E, G)) :
  ∃ q : Nat → Nat, q 0 = 0 ∧ (∀ (i : Nat) (y : Ix), L[i]? = some y → q (i + 1) = y.x.next ∧ Pc b (q i) y.x) ∧ (E = 0 → q L.length ≤ a) := by
 obtain ⟨h1, h2, h3⟩ := rd_places (b := b) _ (p := 0) (G := []) (Nat.le_refl _) (Nat.zero_le _) rfl;rw [h] at h1 h2 h3;simp only [List.length_map] at h1 h2 h3;refine ⟨lstP 0 (L.map (·.x)), rfl, fun i y hy => ?_, h3⟩;have hx : (L.map (·.x))[i]? = some y.x := by rw [List.getElem?_map, hy]; rfl
 have hi : i < L.length := (List.getElem?_eq_some_iff.1 hy).1;obtain ⟨k1, k2⟩ := h1 i y.x hx;have hm := h2 i (by omega);refine ⟨?_, k1.frm, k1.head, k1.data, k1.next, k1.fit, k1.m1.trans hm, k1.m2.trans hm, k1.m3.trans hm, k1.m4.trans hm, k1.h1, k1.h2, k2⟩;show (match (L.map (·.x))[i]? with | some x => x.next | none => 0) = y.x.next;rw [hx]
end Go.Proofs.YtlenihpbhlfcoaaGreatDoor
namespace Go.Proofs.YtlenihpbhlfcoaaGreatDoor
open Go.RowKit Go.Deep
def remF (x y : Value) : Sem Value := binOp BinOp.rem 3 x y
theorem remF_fold (x y : Value) : binOp BinOp.rem 3 x y = remF x y := rfl
theorem remN512 (n : Nat) (h : n % 512 = 0) (w : World) : (remF (.int .i64 (n : Nat)) (.int .i64 512)).run Tryz.prog w = .ok (.int .i64 0) w := by
 have e : Int.tmod (n : Int) 512 = 0 := by
  rw [Int.tmod_eq_emod_of_nonneg (by omega)];omega
 unfold remF binOp;simp [Op.intDiv, e]
attribute [local go_sem ↓] remF_fold
theorem mineLen {K : Nat → Prop} {a : Option Addr} {m c : Nat} {l : List By} {w : World} (h : Mine K (.slice a m c) l w) : m = l.length := by
 have := (slx_len h.sl).1;omega
theorem ct_any (w : World) (xb : Option Addr) (cb : Nat) (b : List By) (hb : Old w (.slice xb b.length cb) b) (hbl : b.length ≤ 140737488351232) (p : Nat) (y : Ix) (iy : IxW (fun _ => False) y w) (hp : Pc b p y.x) (hk : y.x.kind = 2) (hs : y.x.size ≤ 4194304) :
  Calls Tryz.prog 10 #[.slice xb b.length cb, .agg y.C] w fun e w' => ∃ (a' : Option Addr) (c' m : Nat), e = .returned (.tuple #[.slice a' m c', .int .i64 0]) ∧ (m : Int) = y.x.size ∧ Hid (Nw w w') := by
 obtain ⟨h0, h1, h2⟩ := hp.cn hk;have q1 := hp.next;have q2 := hp.fit;have q3 := hp.h1;have q4 := hp.data;have hq : y.x.data + y.x.held ≤ b.length := by omega
 have hfl : (fd b y.x.data y.x.held).length = y.x.held := fd_length b _ _ hq;refine (qContent_ok w xb b.length cb b hb hbl y.C ixI y.ma y.mn y.mc y.x.map y.x.size y.x.data y.x.held y.x.sparse (by show some (Value.int .i64 (y.x.kind : Nat)) = _; rw [hk]; rfl) rfl rfl rfl rfl rfl iy.m ⟨h0, hs⟩ hq (by omega) h1).mono fun e w' h => ?_
 rcases h with ⟨k1, a', c', rfl, n4, mn⟩ | ⟨k1, V, n1, k2⟩
 ·exact ⟨a', c', _, rfl, (h1 k1).symm, n4⟩
 ·obtain ⟨v1, v2⟩ := h2 k1;rcases k2 with ⟨k3, _⟩ | ⟨k3, k4, a', m, c', rfl, k5⟩
  ·exact absurd ⟨v1, by rw [hfl]; exact v2⟩ k3
  ·have h0' : 0 ≤ hld y.x.map := by
    have hv := v1;unfold vld at hv;rw [Bool.and_eq_true, Bool.and_eq_true, decide_eq_true_iff, decide_eq_true_iff] at hv;obtain ⟨hs0, _, hve⟩ := hv;have hhb := hld_part hve hs0 y.x.map.length;rw [List.take_length] at hhb;exact hhb.1
   have hok := okS_last (d := fd b y.x.data y.x.held) hs v1 h0' k4;rw [hok] at k5 ⊢;obtain ⟨n2, mn⟩ := k5.out;refine ⟨a', c', m, rfl, ?_, n1.trans n2⟩;rw [mineLen mn, if_pos rfl, sprd_len v1];omega
theorem places_walk (w : World) (hE : Env w) (xb : Option Addr) (cb : Nat) (b : List By) (hb : Old w (.slice xb b.length cb) b) (hbl : b.length ≤ 140737488351232) :
  Calls Tryz.prog 3 #[.slice xb b.length cb] w fun e w' => e = .returned (.bool true) ∧ Nw w w' := by
 refine asP fun P hP => ?_
 have HP : Hid (∀ V, Nw w V → P (.returned (.bool true)) V) := fun V hV => by rw [hP]; exact ⟨rfl, hV⟩
 have HE := tHid hE;have HL := tHid (lives16_any w hE);have HB := tHid hb;obtain ⟨N, hN⟩ : ∃ N, b.length = N := ⟨_, rfl⟩;have HN := tHid hN;rw [hN] at hbl ⊢;clear hP hE hb hN;go_enter Tryz.func3, Tryz.ntmps3
 go_wp2_with fail
 go_at_call 8
 with_reducible refine HL.out.mono ?_
 rintro e V0 ⟨rfl, n0⟩;have N0 := tHid n0;clear n0 HL;obtain ⟨g1, c1, W1, HA1, o1, l1, n1⟩ := copyR V0 (.slice xb N cb) b ((by rw [← HN.out]; exact (Sl.nw HB.out N0.out).mono (fun _ h => h.elim))) (by rw [HN.out]; omega);rw [HN.out] at HA1 o1
 have HR3 : Hid (Calls Tryz.prog 9 #[.slice (some ⟨g1, 0, none⟩) N c1] W1 fun e V' => ∃ (Ln : Nat) (av : Option Addr) (cv a E : Nat), e = .returned (.tuple #[.slice av Ln cv, .int .i64 (a : Nat), .int .i64 (E : Nat)]) ∧ Hid (∃ (L : List Ix) (G : List Pr), L.length = Ln ∧ rdR b 0 [] = (L.map (·.x), a, E, G) ∧ Nw W1 V' ∧ Ln ≤ cv ∧ cv < 9223372036854775808 ∧ ∃ og, OgR RIx og (.slice av Ln cv) L V' ∧ (∀ g, og = some g → W1.heap.size ≤ g) ∧ ∀ y ∈ L, IxW (fun k => og = some k ∨ k < W1.heap.size ∨ V'.heap.size ≤ k) y V')) := by
  have hold : Old W1 (.slice (some ⟨g1, 0, none⟩) b.length c1) b := by rw [HN.out]; exact o1.old
  have := qRead_any W1 (some ⟨g1, 0, none⟩) c1 b hold (by rw [HN.out]; omega) (HE.out.nw (N0.out.trans n1));rw [HN.out] at this;exact this.mono fun e V' h => reF h
 have N1 : Hid (Nw w W1) := N0.out.trans n1;clear o1 l1 n1;go_upto_region 4 with (first
  | (at_builtin; refine Lib.wpList_append_run _ rfl _ _ 22 22 rfl (.slice (some ⟨V0.heap.size, 0, none⟩) 0 0) (.slice xb N cb) (by first | rfl | simp [Act.eval]) (by first | rfl | simp [Act.eval]) _ _ (HA1.out _) ?_)
  | (go_at_call 9; with_reducible refine HR3.out.mono ?_; rintro e V2 ⟨n, av, cv, a, E, rfl, K2⟩)
  | fail)
 obtain ⟨L, G, hL, hrd, n2, hcv1, hcv2, og, lo, _, it⟩ := K2;have N2 : Hid (Nw w V2) := N1.out.trans n2;have HL1 := tHid hL;have HLO := tHid lo;have HIT : Hid (∀ y ∈ L, IxW (fun _ => False) y V2) := fun y hy => (it y hy).mono (fun _ h => h.elim)
 obtain ⟨tp1, tp2, _⟩ := total_pure hrd;obtain ⟨Q, hQ0, hQ1, hQ2⟩ := places_pure hrd;rw [hL, HN.out] at tp1;rw [HN.out] at tp2;rw [hL] at hQ2;have HQ1 := tHid hQ1;have HQ2 := tHid hQ2;have HQ0 := tHid hQ0;clear HR3 HA1 hL hrd n2 lo it hQ1 hQ2 hQ0 N1 N0
 go_wp2_with fail
 go_loopg [6, 7, 8, 9, 10] n (fun kx v6 v7 v8 v9 v10 wr => ∃ (I La : Nat), I ≤ n ∧ n - I ≤ kx ∧ v7 = .int .i64 I ∧ v6 = .int .i64 La ∧ Hid (Q I = La ∧ Nw V2 wr))
 case atStart => exact ⟨0, 0, by omega, by omega, rfl, rfl, HQ0.out, Fr.refl _ _⟩
 case round =>
  obtain ⟨I, La, hI, hkx, rfl, rfl, KH⟩ := hrel;have KQ : Hid (Q I = La) := KH.out.1;have K : Hid (Nw V2 wr) := KH.out.2;clear KH;by_cases hlt : I < n;rotate_left
  ·have hIi : ¬ (I : Int) < (n : Int) := by omega
   have e1 : (0 : Int) ≤ (a : Int) := by omega
   have e2 : (a : Int) ≤ (N : Int) := by omega
   by_cases hE0 : E = 0
   ·have hge := HQ2.out hE0;rw [show n = I by omega, KQ.out] at hge;have e3 : (La : Int) ≤ (a : Int) := by omega
    subst hE0
    go_wp2_with fail
    exact HP.out _ (N2.out.trans K.out)
   ·have hEI : ¬ ((E : Int) = 0) := by omega
    go_wp2_with fail
    exact HP.out _ (N2.out.trans K.out)
  have hIi : (I : Int) < (n : Int) := by omega
  have hIL : I < L.length := by have := HL1.out; omega
  obtain ⟨g6, hg6⟩ : ∃ g, og = some g := by
   cases og with
   | none => have := HLO.out.2; rw [this] at hIL; simp at hIL
   | some g => exact ⟨g, rfl⟩
  subst hg6;have ow : OwR RIx g6 (.slice av n cv) L wr := (show OwR RIx g6 _ L V2 from HLO.out).nw K.out;obtain ⟨cc6, ev6, _, _⟩ := ow.form;injection ev6 with ea6 eb6 ec6;clear eb6 ec6;subst ea6;obtain ⟨y, hy⟩ : ∃ y, L[I]? = some y := ⟨_, List.getElem?_eq_getElem hIL⟩;have iy : IxW (fun _ => False) y V2 := HIT.out y (List.mem_of_getElem? hy);obtain ⟨hqn, hpc⟩ := HQ1.out I y hy;rw [KQ.out] at hpc;obtain ⟨CY, hCY⟩ : ∃ CY, y.C.toList = CY := ⟨_, rfl⟩;have HZY : Hid ((Tryz.prog.info? 36).map (·.size) = some CY.length) := by rw [← hCY]; exact ixI
  have HZYA : Hid ((Tryz.prog.info? 36).map (·.size) = some CY.toArray.size) := by rw [← hCY]; exact ixI
  have HSZY : Hid ((#[.string ⟨#[]⟩, .int .i64 0, .int .u32 0, .int .u32 0, .int .u32 0, .int .i64 0, .int .i32 0, .string ⟨#[]⟩, .string ⟨#[]⟩, .string ⟨#[]⟩, .int .i64 0, .int .u8 0, .int .i64 0, .int .u8 0, .int .i64 0, .int .i64 0, .int .i64 0, .int .i64 0, .int .i64 0, .bool false, .slice none 0 0, .slice none 0 0] : Array Value).size = CY.toArray.size) := by rw [← hCY]; rfl
  have HONE : Hid (CY.toArray.all (·.oneCell') = true) := by rw [← hCY, Array.toArray_toList]; show _ = _; simp [Ix.C, icC, Value.oneCell']
  have HRG : Hid (wr.rangeAt g6 (I * 22) CY) := fun j v hv => by
   rw [← hCY] at hv;exact (ow.cell rixOk I j y v hy hv).1
  obtain ⟨W9, e9⟩ : ∃ W9, (wr.alloc (.cells #[.string ⟨#[]⟩, .int .i64 0, .int .u32 0, .int .u32 0, .int .u32 0, .int .i64 0, .int .i32 0, .string ⟨#[]⟩, .string ⟨#[]⟩, .string ⟨#[]⟩, .int .i64 0, .int .u8 0, .int .i64 0, .int .u8 0, .int .i64 0, .int .i64 0, .int .i64 0, .int .i64 0, .int .i64 0, .bool false, .slice none 0 0, .slice none 0 0] 36)).setRow wr.heap.size CY.toArray = W9 := ⟨_, rfl⟩;have n9 : Nw wr W9 := by rw [← e9]; exact ((Fr.refl _ _).alloc _).setRow _ _ (.inr (Nat.le_refl _))
  have r9 : W9.heap[wr.heap.size]? = some (.cells CY.toArray 36) := by rw [← e9]; exact setRow_heap _ _ _ _ 36 _ (newHeap _ _)
  obtain ⟨p9, hp9⟩ : ∃ p9, wr.heap.size = p9 := ⟨_, rfl⟩;have E9 : Hid ((wr.alloc (.cells #[.string ⟨#[]⟩, .int .i64 0, .int .u32 0, .int .u32 0, .int .u32 0, .int .i64 0, .int .i32 0, .string ⟨#[]⟩, .string ⟨#[]⟩, .string ⟨#[]⟩, .int .i64 0, .int .u8 0, .int .i64 0, .int .u8 0, .int .i64 0, .int .i64 0, .int .i64 0, .int .i64 0, .int .i64 0, .bool false, .slice none 0 0, .slice none 0 0] 36)).setRow p9 CY.toArray = W9) := by rw [← hp9]; exact e9
  rw [hp9] at r9;have N9 := tHid n9;have HP9 := tHid hp9;clear e9 n9;go_upto_region 9 with (first
   | (refine wpList_load_mid rfl 36 _ rfl g6 (I * 22) (by first | rfl | simp [Act.eval]) CY _ HRG.out Tryz.underlying36 rfl HZY.out ?_)
   | (refine wpList_store_row rfl 36 _ _ rfl wr.heap.size CY.toArray (by first | rfl | simp [Act.eval]) (by first | rfl | simp [Act.eval]) 36 _ (newHeap _ _) HZYA.out HSZY.out HONE.out ?_; rw [HP9.out, E9.out])
   | fail)
  try rw [HP9.out]
  obtain ⟨f, hf⟩ : ∃ f, y.x.frm = f := ⟨_, rfl⟩;obtain ⟨h, hh⟩ : ∃ h, y.x.head = h := ⟨_, rfl⟩;obtain ⟨d, hd⟩ : ∃ d, y.x.data = d := ⟨_, rfl⟩;obtain ⟨m, hm⟩ : ∃ m, y.x.next = m := ⟨_, rfl⟩;obtain ⟨z, hz⟩ : ∃ z, y.x.held = z := ⟨_, rfl⟩;obtain ⟨kd, hkd⟩ : ∃ kd, y.x.kind = kd := ⟨_, rfl⟩;obtain ⟨sz, hsz⟩ : ∃ sz, y.x.size = sz := ⟨_, rfl⟩
  obtain ⟨HCL1, HCL2⟩ : Hid (∀ j v, CY[j]? = some v → W9.cell? ⟨p9, j, none⟩ = some v) ∧ Hid (∀ V, Nw W9 V → V.rangeAt p9 0 CY) := ⟨fun j v hv => cell_of r9 j v (by simpa using hv), fun V hV j v hv => by rw [Nat.zero_add]; exact cell_of (Nw.heap hV r9) j v (by simpa using hv)⟩;have c14 : W9.cell? ⟨p9, 14, none⟩ = some (.int .i64 (f : Nat)) := HCL1.out 14 _ (by rw [← hCY, ← hf]; rfl);have c15 : W9.cell? ⟨p9, 15, none⟩ = some (.int .i64 (h : Nat)) := HCL1.out 15 _ (by rw [← hCY, ← hh]; rfl)
  have c16 : W9.cell? ⟨p9, 16, none⟩ = some (.int .i64 (d : Nat)) := HCL1.out 16 _ (by rw [← hCY, ← hd]; rfl);have c17 : W9.cell? ⟨p9, 17, none⟩ = some (.int .i64 (m : Nat)) := HCL1.out 17 _ (by rw [← hCY, ← hm]; rfl);have c18 : W9.cell? ⟨p9, 18, none⟩ = some (.int .i64 (z : Nat)) := HCL1.out 18 _ (by rw [← hCY, ← hz]; rfl);have c1 : W9.cell? ⟨p9, 1, none⟩ = some (.int .i64 (kd : Nat)) := HCL1.out 1 _ (by rw [← hCY, ← hkd]; rfl);have c10 : W9.cell? ⟨p9, 10, none⟩ = some (.int .i64 sz) := HCL1.out 10 _ (by rw [← hCY, ← hsz]; rfl)
  have HCT : Hid (kd = 2 → sz ≤ 4194304 → Calls Tryz.prog 10 #[.slice xb N cb, .agg CY.toArray] W9 fun e w' => ∃ (a' : Option Addr) (c' q : Nat), e = .returned (.tuple #[.slice a' q c', .int .i64 0]) ∧ (q : Int) = sz ∧ Hid (Nw W9 w' ∧ w'.cell? ⟨p9, 10, none⟩ = some (.int .i64 sz) ∧ w'.cell? ⟨p9, 17, none⟩ = some (.int .i64 (m : Nat)))) := fun k1 k2 => by
   have hbo : Old W9 (.slice xb b.length cb) b := (Sl.nw HB.out ((N2.out.trans K.out).trans N9.out)).mono (fun k hk => Nat.le_trans ((N2.out.trans K.out).trans N9.out).size hk);have := ct_any W9 xb cb b hbo (by rw [HN.out]; omega) La y (iy.nw (K.out.trans N9.out)) hpc (hkd.trans k1) (by rw [hsz]; exact k2);rw [HN.out, hsz] at this;rw [← hCY, Array.toArray_toList];exact this.mono fun e w' ⟨a', c', q, h1, h2, h3⟩ => ⟨a', c', q, h1, h2, h3.out, Nw.cell h3.out c10, Nw.cell h3.out c17⟩
  have u1 := hpc.frm;have u2 := hpc.head;have u3 := hpc.data;have u4 := hpc.next;have u5 := hpc.fit;have u6 := hpc.m1;have u7 := hpc.m2;have u8 := hpc.m3;have u9 := hpc.m4;have u10 := hpc.h1;have u11 := hpc.h2;rw [hf] at u1 u2 u6;rw [hh] at u2 u3 u7;rw [hd] at u3 u4 u8 u10 u11;rw [hm] at u4 u5 u9 u10 u11 hqn;rw [hz] at u10 u11;rw [HN.out] at u5;obtain ⟨D, hD⟩ : ∃ D, m - d = D := ⟨_, rfl⟩;rw [hD] at u10 u11;have t1 : ¬ (f : Int) < (La : Int) := by omega
  have t2 : ¬ (h : Int) < (f : Int) := by omega
  have t3 : ¬ (d : Int) ≤ (h : Int) := by omega
  have t4 : ¬ (m : Int) < (d : Int) := by omega
  have t5 : ¬ (N : Int) < (m : Int) := by omega
  have t6 : ¬ (z : Int) < 0 := by omega
  have t7 : (m : Int) - (d : Int) = (D : Int) := by omega
  have t8 : IntKind.i64.wrap (D : Int) = (D : Int) := by rw [IntKind.wrap_i64]; omega
  have t9 : ¬ (D : Int) < (z : Int) := by omega
  obtain ⟨D5, hD5⟩ : ∃ D5 : Int, (D : Int) - 512 = D5 := ⟨_, rfl⟩;have t10 : IntKind.i64.wrap D5 = D5 := by rw [← hD5, IntKind.wrap_i64]; omega
  have t11 : ¬ (z : Int) ≤ D5 := by omega
  have r1 : (remF (.int .i64 (f : Nat)) (.int .i64 512)).run Tryz.prog W9 = .ok (.int .i64 0) W9 := remN512 f u6 W9;have r2 : (remF (.int .i64 (h : Nat)) (.int .i64 512)).run Tryz.prog W9 = .ok (.int .i64 0) W9 := remN512 h u7 W9;have r3 : (remF (.int .i64 (d : Nat)) (.int .i64 512)).run Tryz.prog W9 = .ok (.int .i64 0) W9 := remN512 d u8 W9;have r4 : (remF (.int .i64 (m : Nat)) (.int .i64 512)).run Tryz.prog W9 = .ok (.int .i64 0) W9 := remN512 m u9 W9;obtain ⟨I', hI'⟩ : ∃ I', I + 1 = I' := ⟨_, rfl⟩;have hi : ((I : Int) + 1) = (I' : Int) := by omega
  have hw : IntKind.i64.wrap (I' : Int) = (I' : Int) := by rw [IntKind.wrap_i64]; omega
  have KN : Hid (Q I' = m) := by rw [hI'] at hqn; exact hqn
  have NK : Hid (Nw V2 W9) := K.out.trans N9.out;clear HRG HZYA HSZY HONE E9 HCL1 hf hh hd hm hz hkd hsz hpc iy hy hqn ow u1 u2 u3 u4 u5 u6 u7 u8 u9 u10 u11 hCY r9 hD HP9 hp9 K N9 KQ;refine wp_region_lit ?_;generalize hO : List.toArray _ = O;refine stepV (by rw [← hO]; kernel_rfl) (.pointer (some ⟨p9, 14, none⟩)) (by kernel_rfl) ?_;refine stepV (by rw [← hO]; kernel_rfl) (.int .i64 (f : Nat)) (by unfold execOp; go_simp) ?_;refine stepV (by rw [← hO]; kernel_rfl) (.int .i64 (La : Nat)) (by kernel_rfl) ?_;refine stepV (by rw [← hO]; kernel_rfl) (.bool false) (by unfold execOp; go_simp) ?_
  simp only [Act.put, nz1, nz2, nz3];refine stepV (by rw [← hO]; kernel_rfl) (.bool false) (by kernel_rfl) ?_;refine stepV (by rw [← hO]; kernel_rfl) (.pointer (some ⟨p9, 15, none⟩)) (by kernel_rfl) ?_;refine stepV (by rw [← hO]; kernel_rfl) (.int .i64 (h : Nat)) (by unfold execOp; go_simp) ?_;refine stepV (by rw [← hO]; kernel_rfl) (.pointer (some ⟨p9, 14, none⟩)) (by kernel_rfl) ?_;simp only [Act.put, nz1, nz2, nz3]
  refine stepV (by rw [← hO]; kernel_rfl) (.int .i64 (f : Nat)) (by unfold execOp; go_simp) ?_;refine stepV (by rw [← hO]; kernel_rfl) (.bool false) (by unfold execOp; go_simp) ?_;refine stepV (by rw [← hO]; kernel_rfl) (.bool false) (by kernel_rfl) ?_;refine stepV (by rw [← hO]; kernel_rfl) (.bool false) (by kernel_rfl) ?_;simp only [Act.put, nz1, nz2, nz3];refine stepV (by rw [← hO]; kernel_rfl) (.pointer (some ⟨p9, 16, none⟩)) (by kernel_rfl) ?_;refine stepV (by rw [← hO]; kernel_rfl) (.int .i64 (d : Nat)) (by unfold execOp; go_simp) ?_
  refine stepV (by rw [← hO]; kernel_rfl) (.pointer (some ⟨p9, 15, none⟩)) (by kernel_rfl) ?_;refine stepV (by rw [← hO]; kernel_rfl) (.int .i64 (h : Nat)) (by unfold execOp; go_simp) ?_;simp only [Act.put, nz1, nz2, nz3];refine stepV (by rw [← hO]; kernel_rfl) (.bool false) (by unfold execOp; go_simp) ?_;refine stepV (by rw [← hO]; kernel_rfl) (.bool false) (by kernel_rfl) ?_;refine stepV (by rw [← hO]; kernel_rfl) (.bool false) (by kernel_rfl) ?_;refine stepV (by rw [← hO]; kernel_rfl) (.pointer (some ⟨p9, 17, none⟩)) (by kernel_rfl) ?_
  simp only [Act.put, nz1, nz2, nz3];refine stepV (by rw [← hO]; kernel_rfl) (.int .i64 (m : Nat)) (by unfold execOp; go_simp) ?_;refine stepV (by rw [← hO]; kernel_rfl) (.pointer (some ⟨p9, 16, none⟩)) (by kernel_rfl) ?_;refine stepV (by rw [← hO]; kernel_rfl) (.int .i64 (d : Nat)) (by unfold execOp; go_simp) ?_;refine stepV (by rw [← hO]; kernel_rfl) (.bool false) (by unfold execOp; go_simp) ?_;simp only [Act.put, nz1, nz2, nz3]
  refine stepV (by rw [← hO]; kernel_rfl) (.bool false) (by kernel_rfl) ?_;refine stepV (by rw [← hO]; kernel_rfl) (.bool false) (by kernel_rfl) ?_;refine stepV (by rw [← hO]; kernel_rfl) (.pointer (some ⟨p9, 17, none⟩)) (by kernel_rfl) ?_;refine stepV (by rw [← hO]; kernel_rfl) (.int .i64 (m : Nat)) (by unfold execOp; go_simp) ?_;simp only [Act.put, nz1, nz2, nz3];refine stepV (by rw [← hO]; kernel_rfl) (.slice xb N cb) (by kernel_rfl) ?_;refine stepV (by rw [← hO]; kernel_rfl) (.int .i64 (N : Nat)) (by unfold execOp; go_simp) ?_
  refine stepV (by rw [← hO]; kernel_rfl) (.bool false) (by unfold execOp; go_simp) ?_;refine stepV (by rw [← hO]; kernel_rfl) (.bool false) (by kernel_rfl) ?_;simp only [Act.put, nz1, nz2, nz3];refine stepV (by rw [← hO]; kernel_rfl) (.bool false) (by kernel_rfl) ?_;refine stepV (by rw [← hO]; kernel_rfl) (.pointer (some ⟨p9, 14, none⟩)) (by kernel_rfl) ?_;refine stepV (by rw [← hO]; kernel_rfl) (.int .i64 (f : Nat)) (by unfold execOp; go_simp) ?_;refine stepV (by rw [← hO]; kernel_rfl) (.int .i64 0) (by unfold execOp; go_simp) ?_
  simp only [Act.put, nz1, nz2, nz3];refine stepV (by rw [← hO]; kernel_rfl) (.bool false) (by unfold execOp; go_simp) ?_;refine stepV (by rw [← hO]; kernel_rfl) (.bool false) (by kernel_rfl) ?_;refine stepV (by rw [← hO]; kernel_rfl) (.bool false) (by kernel_rfl) ?_;refine stepV (by rw [← hO]; kernel_rfl) (.pointer (some ⟨p9, 15, none⟩)) (by kernel_rfl) ?_;simp only [Act.put, nz1, nz2, nz3];refine stepV (by rw [← hO]; kernel_rfl) (.int .i64 (h : Nat)) (by unfold execOp; go_simp) ?_
  refine stepV (by rw [← hO]; kernel_rfl) (.int .i64 0) (by unfold execOp; go_simp) ?_;refine stepV (by rw [← hO]; kernel_rfl) (.bool false) (by unfold execOp; go_simp) ?_;refine stepV (by rw [← hO]; kernel_rfl) (.bool false) (by kernel_rfl) ?_;simp only [Act.put, nz1, nz2, nz3];refine stepV (by rw [← hO]; kernel_rfl) (.bool false) (by kernel_rfl) ?_;refine stepV (by rw [← hO]; kernel_rfl) (.pointer (some ⟨p9, 16, none⟩)) (by kernel_rfl) ?_;refine stepV (by rw [← hO]; kernel_rfl) (.int .i64 (d : Nat)) (by unfold execOp; go_simp) ?_
  refine stepV (by rw [← hO]; kernel_rfl) (.int .i64 0) (by unfold execOp; go_simp) ?_;simp only [Act.put, nz1, nz2, nz3];refine stepV (by rw [← hO]; kernel_rfl) (.bool false) (by unfold execOp; go_simp) ?_;refine stepV (by rw [← hO]; kernel_rfl) (.bool false) (by kernel_rfl) ?_;refine stepV (by rw [← hO]; kernel_rfl) (.bool false) (by kernel_rfl) ?_;refine stepV (by rw [← hO]; kernel_rfl) (.pointer (some ⟨p9, 17, none⟩)) (by kernel_rfl) ?_;simp only [Act.put, nz1, nz2, nz3]
  refine stepV (by rw [← hO]; kernel_rfl) (.int .i64 (m : Nat)) (by unfold execOp; go_simp) ?_;refine stepV (by rw [← hO]; kernel_rfl) (.int .i64 0) (by unfold execOp; go_simp) ?_;refine stepV (by rw [← hO]; kernel_rfl) (.bool false) (by unfold execOp; go_simp) ?_;refine stepV (by rw [← hO]; kernel_rfl) (.bool false) (by kernel_rfl) ?_;simp only [Act.put, nz1, nz2, nz3];try simp only [Act.put, nz1, nz2, nz3]
  refine wpList_nil ?_;clear hO O;go_upto_region 11 with fail;refine wp_region_lit ?_;generalize hO : List.toArray _ = O;refine stepV (by rw [← hO]; kernel_rfl) (.pointer (some ⟨p9, 18, none⟩)) (by kernel_rfl) ?_;refine stepV (by rw [← hO]; kernel_rfl) (.int .i64 (z : Nat)) (by unfold execOp; go_simp) ?_;refine stepV (by rw [← hO]; kernel_rfl) (.bool false) (by unfold execOp; go_simp) ?_;refine stepV (by rw [← hO]; kernel_rfl) (.bool false) (by kernel_rfl) ?_;simp only [Act.put, nz1, nz2, nz3]
  refine stepV (by rw [← hO]; kernel_rfl) (.pointer (some ⟨p9, 18, none⟩)) (by kernel_rfl) ?_;refine stepV (by rw [← hO]; kernel_rfl) (.int .i64 (z : Nat)) (by unfold execOp; go_simp) ?_;refine stepV (by rw [← hO]; kernel_rfl) (.pointer (some ⟨p9, 17, none⟩)) (by kernel_rfl) ?_;refine stepV (by rw [← hO]; kernel_rfl) (.int .i64 (m : Nat)) (by unfold execOp; go_simp) ?_;simp only [Act.put, nz1, nz2, nz3];refine stepV (by rw [← hO]; kernel_rfl) (.pointer (some ⟨p9, 16, none⟩)) (by kernel_rfl) ?_
  refine stepV (by rw [← hO]; kernel_rfl) (.int .i64 (d : Nat)) (by unfold execOp; go_simp) ?_;refine stepV (by rw [← hO]; kernel_rfl) (.int .i64 (D : Nat)) (by unfold execOp; go_simp) ?_;refine stepV (by rw [← hO]; kernel_rfl) (.bool false) (by unfold execOp; go_simp) ?_;simp only [Act.put, nz1, nz2, nz3];refine stepV (by rw [← hO]; kernel_rfl) (.bool false) (by kernel_rfl) ?_;refine stepV (by rw [← hO]; kernel_rfl) (.bool false) (by kernel_rfl) ?_;refine stepV (by rw [← hO]; kernel_rfl) (.pointer (some ⟨p9, 18, none⟩)) (by kernel_rfl) ?_
  refine stepV (by rw [← hO]; kernel_rfl) (.int .i64 (z : Nat)) (by unfold execOp; go_simp) ?_;simp only [Act.put, nz1, nz2, nz3];refine stepV (by rw [← hO]; kernel_rfl) (.pointer (some ⟨p9, 17, none⟩)) (by kernel_rfl) ?_;refine stepV (by rw [← hO]; kernel_rfl) (.int .i64 (m : Nat)) (by unfold execOp; go_simp) ?_;refine stepV (by rw [← hO]; kernel_rfl) (.pointer (some ⟨p9, 16, none⟩)) (by kernel_rfl) ?_;refine stepV (by rw [← hO]; kernel_rfl) (.int .i64 (d : Nat)) (by unfold execOp; go_simp) ?_
  simp only [Act.put, nz1, nz2, nz3];refine stepV (by rw [← hO]; kernel_rfl) (.int .i64 (D : Nat)) (by unfold execOp; go_simp) ?_;refine stepV (by rw [← hO]; kernel_rfl) (.int .i64 D5) (by unfold execOp; go_simp) ?_;refine stepV (by rw [← hO]; kernel_rfl) (.bool false) (by unfold execOp; go_simp) ?_;refine stepV (by rw [← hO]; kernel_rfl) (.bool false) (by kernel_rfl) ?_;simp only [Act.put, nz1, nz2, nz3]
  try simp only [Act.put, nz1, nz2, nz3]
  refine wpList_nil ?_;clear hO O;clear hD5 r1 r2 r3 r4 t1 t2 t3 t4 t5 t6 t7 t8 t9 t10 t11;by_cases hk2 : kd = 2;rotate_left
  ·have hkI : ¬ ((kd : Int) = 2) := by omega
   go_wp2_with fail
   go_roundg (n - (I + 1))
   case measure => omega
   case rel => exact ⟨I', m, by omega, by omega, rfl, rfl, KN.out, NK.out⟩
  subst hk2;by_cases hsz : sz ≤ 4194304;rotate_left
  ·go_wp2_with fail
   go_roundg (n - (I + 1))
   case measure => omega
   case rel => exact ⟨I', m, by omega, by omega, rfl, rfl, KN.out, NK.out⟩
  go_upto_region 15 with (first
   | (refine wpList_load_mid rfl 36 _ rfl p9 0 (by first | rfl | simp [Act.eval]) CY _ (HCL2.out _ (Fr.refl _ _)) Tryz.underlying36 rfl HZY.out ?_)
   | (go_at_call 10; with_reducible refine (HCT.out rfl hsz).mono ?_; rintro e V5 ⟨a5, c5, q5, rfl, hq5, K5⟩)
   | fail)
  obtain ⟨n5, d10, d17⟩ := K5.out;have N5 := tHid n5;clear K5 n5 c14 c15 c16 c17 c18 c1 c10
  go_wp2_with fail
  go_roundg (n - (I + 1))
  case measure => omega
  case rel => exact ⟨I', m, by omega, by omega, rfl, rfl, KN.out, NK.out.trans N5.out⟩
end Go.Proofs.YtlenihpbhlfcoaaGreatDoor
