import Derived.Test.YtlenihpbhlfcoaaGreatDoorUcb
import Derived.Test.YtlenihpbhlfcoaaGreatDoorUbx
set_option maxHeartbeats 8000000
set_option maxRecDepth 100000
set_option linter.unusedSimpArgs false
set_option linter.unusedVariables false
namespace Go.Proofs.YtlenihpbhlfcoaaGreatDoor
open Go.RowKit Go.Deep
structure TwJ (w : World) (rb : Nat) (va : Option Addr) (vc : Nat) (b : List By) (p : Nat) (vG : Value) (G : List Pr) (n : Nat) (V : World) : Prop where
 fr : Nw w V
 rl : RL rb va vc b p vG G V
 ok : OkG G
 gz : SlR RP (fun _ => False) vG G V
 le : w.heap.size ≤ rb
 eq : ∃ l : List It, l.length = n ∧ rdR b 0 [] = (l ++ (rdR b p G).1, (rdR b p G).2)
 ln : 512 * n ≤ p
structure TwE (w : World) (rb : Nat) (va : Option Addr) (vc : Nat) (b : List By) (a E : Nat) (G : List Pr) (n : Nat) (V : World) : Prop where
 fr : Nw w V
 row : ∃ vG', V.heap[rb]? = some (.cells #[.slice va b.length vc, .int .i64 ((a : Nat) : Int), vG', .int .i64 ((E : Nat) : Int)] 51)
 eq : ∃ l : List It, l.length = n ∧ rdR b 0 [] = (l, a, E, G)
 gl : E = 0 → OkG G ∧ ∃ vG', RL rb va vc b a vG' G V
variable {w V V1 V2 W : World} {rb : Nat} {va : Option Addr} {vc : Nat} {b : List By} {p : Nat} {vG : Value} {G : List Pr} {n : Nat}
theorem twJ_start (hN : Nw w V) (h : Rm (fun k => k = rb ∨ V.heap.size ≤ k) rb va vc b 0 (.slice none 0 0) [] V) (hle : w.heap.size ≤ rb) : TwJ w rb va vc b 0 (.slice none 0 0) [] 0 V :=
 ⟨hN, h, ⟨Nat.zero_le _, (fun x hx => by cases hx)⟩, .inl ⟨none, rfl, rfl⟩, hle, ⟨[], rfl, rfl⟩, Nat.zero_le _⟩
theorem TwJ.more (h : TwJ w rb va vc b p vG G n V) {x : It} {a : Nat} {G' : List Pr} {vG' : Value} (hc : nx b p G ah0 none = .more x a G') (f : Fr (fun k => k = rb) V V1) (r : RL rb va vc b a vG' G' V1) (ok : OkG G') (hz : SlR RP (fun _ => False) vG' G' V1) (n2 : Nw V1 V2) :
  TwJ w rb va vc b a vG' G' (n + 1) V2 := by
 obtain ⟨l, hl, e⟩ := h.eq;rw [rdR_more hc] at e;have hle := h.le;refine ⟨(h.fr.then f (fun i hi => .inr (by omega))).trans n2, RL.step (Rm.nw r n2) n2.size, ok, hz.nw n2, h.le, ⟨l ++ [x], by simp [hl], by rw [e, List.append_assoc]; rfl⟩, ?_⟩;have := (nx_end hc).1;have := h.ln;omega
theorem TwJ.fin (h : TwJ w rb va vc b p vG G n V) {a : Nat} {G' : List Pr} {vG' : Value} (hc : nx b p G ah0 none = .fin a G') (f : Fr (fun k => k = rb) V V1) (r : RL rb va vc b a vG' G' V1) (ok : OkG G') (n2 : Nw V1 V2) : TwE w rb va vc b a 0 G' n V2 := by
 obtain ⟨l, hl, e⟩ := h.eq;rw [rdR_fin hc, List.append_nil] at e;have hle := h.le;exact ⟨(h.fr.then f (fun i hi => .inr (by omega))).trans n2, ⟨vG', Nw.heap n2 r.row⟩, ⟨l, hl, e⟩, fun _ => ⟨ok, vG', RL.step (Rm.nw r n2) n2.size⟩⟩
theorem TwJ.bad (h : TwJ w rb va vc b p vG G n V) {a E : Nat} {G' : List Pr} {vG' : Value} (hc : nx b p G ah0 none = .bad a E G') (hE : E ≠ 0) (f : Fr (fun k => k = rb) V V1) (r : V1.heap[rb]? = some (.cells #[.slice va b.length vc, .int .i64 ((a : Nat) : Int), vG', .int .i64 ((E : Nat) : Int)] 51)) (n2 : Nw V1 V2) : TwE w rb va vc b a E G' n V2 := by
 obtain ⟨l, hl, e⟩ := h.eq;rw [rdR_bad hc, List.append_nil] at e;have hle := h.le;exact ⟨(h.fr.then f (fun i hi => .inr (by omega))).trans n2, ⟨vG', Nw.heap n2 r⟩, ⟨l, hl, e⟩, fun h0 => absurd h0 hE⟩
theorem TwE.nw {a E : Nat} (h : TwE w rb va vc b a E G n V) (k : Nw V V1) : TwE w rb va vc b a E G n V1 := by
 obtain ⟨vG', r⟩ := h.row;exact ⟨h.fr.trans k, ⟨vG', Nw.heap k r⟩, h.eq, fun h0 => by obtain ⟨o, v2, q⟩ := h.gl h0; exact ⟨o, v2, RL.step (Rm.nw q k) k.size⟩⟩
theorem qAtRow_any (w : World) (rb p : Nat) (x vG e0 : Value) (h : w.heap[rb]? = some (.cells #[x, .int .i64 ((p : Nat) : Int), vG, e0] 51)) : Calls Tryz.prog 14 #[.pointer (some ⟨rb, 0, none⟩)] w fun e w' => e = .returned (.int .i64 (p : Nat)) ∧ w' = w := by
 refine asP fun P hP => ?_
 have HF : Hid (P (.returned (.int .i64 (p : Nat))) w) := by rw [hP]; exact ⟨rfl, rfl⟩
 have c1 : w.cell? ⟨rb, 1, none⟩ = some (.int .i64 (p : Nat)) := cell_of h 1 _ rfl;clear hP h;go_enter Tryz.func14, Tryz.ntmps14
 go_wp2_with fail
 exact HF.out
theorem rd_plc {b : List By} : ∀ (k p : Nat) (G : List Pr), b.length - p ≤ k → ∀ x ∈ (rdR b p G).1, x.frm ≤ x.head ∧ x.head < x.data ∧ x.data ≤ x.next ∧ x.next ≤ b.length := by
 intro k
 induction k with
 | zero =>
  intro p G hk;cases hc : nx b p G ah0 none with
  | fin a G' => rw [rdR_fin hc]; intro x hx; cases hx
  | bad a e G' => rw [rdR_bad hc]; intro x hx; cases hx
  | more x a G' => have := nx_end hc; omega
 | succ k ih =>
  intro p G hk;cases hc : nx b p G ah0 none with
  | fin a G' => rw [rdR_fin hc]; intro x hx; cases hx
  | bad a e G' => rw [rdR_bad hc]; intro x hx; cases hx
  | more x a G' =>
   rw [rdR_more hc];intro y hy;rcases List.mem_cons.1 hy with e | hy
   ·subst e;have := nx_plc hc;exact ⟨this.head, this.data, this.next, this.fit⟩
   ·exact ih a G' (by have := nx_end hc; omega) y hy
theorem two_pure {a b : List By} {L1 L2 L3 : List Ix} {a2 E2 a3 E3 : Nat} {G2 G3 : List Pr} (h1 : rdR a 0 [] = (L1.map (·.x), a.length, 0, [])) (h2 : rdR b 0 [] = (L2.map (·.x), a2, E2, G2)) (h3 : rdR (a ++ b) 0 [] = (L3.map (·.x), a3, E3, G3)) :
  E3 = E2 ∧ a3 = a2 + a.length ∧ L3.length = L1.length + L2.length ∧ ∀ (i : Nat) (y : Ix), L3[i]? = some y → (i < L1.length → ∃ z, L1[i]? = some z ∧ y.x = z.x) ∧ (¬ i < L1.length → ∃ z, L2[i - L1.length]? = some z ∧ y.x = shI a.length z.x ∧ z.x.next ≤ b.length ∧ z.x.frm ≤ z.x.next ∧ z.x.head ≤ z.x.next ∧ z.x.data ≤ z.x.next) := by
 have k := rd_two a b _ (Nat.le_refl _) (Nat.zero_le _) h1;rw [h2, h3] at k;simp only [Prod.mk.injEq] at k;obtain ⟨k1, k2, k3, k4⟩ := k;have hl := congrArg List.length k1;simp only [List.length_map, List.length_append] at hl;refine ⟨k3, by omega, hl, fun i y hy => ?_⟩;have e : (L3.map (·.x))[i]? = some y.x := by rw [List.getElem?_map, hy]; rfl
 rw [k1] at e;have hi : i < L3.length := (List.getElem?_eq_some_iff.1 hy).1;refine ⟨fun h => ?_, fun h => ?_⟩
 ·rw [List.getElem?_append_left (by rw [List.length_map]; exact h), List.getElem?_map, List.getElem?_eq_getElem h] at e;exact ⟨L1[i]'h, List.getElem?_eq_getElem h, by simpa using e.symm⟩
 ·rw [List.getElem?_append_right (by rw [List.length_map]; omega), List.length_map, List.getElem?_map, List.getElem?_map] at e;have h2' : i - L1.length < L2.length := by omega
  rw [List.getElem?_eq_getElem h2'] at e;have q := rd_plc (b := b) _ 0 [] (Nat.le_refl _) (L2[i - L1.length]'h2').x (by rw [h2]; exact List.mem_map.2 ⟨_, List.getElem_mem h2', rfl⟩);refine ⟨L2[i - L1.length]'h2', List.getElem?_eq_getElem h2', by simpa using e.symm, q.2.2.2, by omega, by omega, q.2.2.1⟩
end Go.Proofs.YtlenihpbhlfcoaaGreatDoor
namespace Go.Proofs.YtlenihpbhlfcoaaGreatDoor
open Go.RowKit Go.Deep
theorem two_walk (w : World) (hE : Env w) (xb : Option Addr) (cb : Nat) (b : List By) (hb : Old w (.slice xb b.length cb) b) (hbl : b.length ≤ 1048576) (xd : Option Addr) (cd : Nat) (d : List By) (hd : Old w (.slice xd d.length cd) d) (hdl : d.length ≤ 1048576) :
  Calls Tryz.prog 5 #[.slice xb b.length cb, .slice xd d.length cd] w fun e w' => e = .returned (.bool true) ∧ Nw w w' := by
 refine asP fun P hP => ?_
 have HP : Hid (∀ V, Nw w V → P (.returned (.bool true)) V) := fun V hV => by rw [hP]; exact ⟨rfl, hV⟩
 have HE := tHid hE;have HL := tHid (lives16_any w hE);have HB := tHid hb;have HD := tHid hd;obtain ⟨N, hN⟩ : ∃ N, b.length = N := ⟨_, rfl⟩;obtain ⟨M, hM⟩ : ∃ M, d.length = M := ⟨_, rfl⟩;have HN := tHid hN;have HM := tHid hM;rw [hN] at hbl ⊢;rw [hM] at hdl ⊢;clear hP hE hb hd hN hM;go_enter Tryz.func5, Tryz.ntmps5
 go_wp2_with fail
 go_at_call 8
 with_reducible refine HL.out.mono ?_
 rintro e V0 ⟨rfl, n0⟩;have N0 := tHid n0;clear n0 HL;obtain ⟨g1, c1, W1, HA1, o1, l1, n1⟩ := copyR V0 (.slice xb N cb) b ((by rw [← HN.out]; exact (Sl.nw HB.out N0.out).mono (fun _ h => h.elim))) (by rw [HN.out]; omega);rw [HN.out] at HA1 o1;have HW : Hid (Calls Tryz.prog 12 #[.slice (some ⟨g1, 0, none⟩) N c1] W1 fun e V => ∃ rb, e = .returned (.pointer (some ⟨rb, 0, none⟩)) ∧ Hid (∃ va vc, TwJ W1 rb va vc b 0 (.slice none 0 0) [] 0 V)) := by
  have hold : Old W1 (.slice (some ⟨g1, 0, none⟩) N c1) b := by rw [← HN.out]; rw [← HN.out] at o1; exact o1.old
  exact (qNew_any W1 (some ⟨g1, 0, none⟩) N c1 b (Sl.nw hold (Fr.refl _ _)) (by omega)).mono fun e V h => by
   obtain ⟨rb, va, vc, rfl, h1, h2, h3⟩ := h;exact ⟨rb, rfl, va, vc, twJ_start h1 h2 h3⟩
 have N1 : Hid (Nw w W1) := N0.out.trans n1;clear o1 l1 n1
 go_wp2_with (first
  | (at_builtin; refine Lib.wpList_append_run _ rfl _ _ 22 22 rfl (.slice (some ⟨V0.heap.size, 0, none⟩) 0 0) (.slice xb N cb) (by first | rfl | simp [Act.eval]) (by first | rfl | simp [Act.eval]) _ _ (HA1.out _) ?_)
  | fail)
 go_at_call 12
 with_reducible refine HW.out.mono ?_
 rintro e V2 ⟨rb, rfl, K2⟩;clear HW HA1;obtain ⟨va, vc, J0⟩ := K2;have HEB : Hid (EnvB W1.heap.size W1) := EnvB.of (HE.out.nw N1.out);have J0 := tHid J0
 go_wp2_with fail
 go_loopg [6, 7, 8, 9] N (fun kx v6 v7 v8 v9 wr => ∃ (n p : Nat), v6 = .int .i64 n ∧ N ≤ p + kx ∧ p ≤ N ∧ 512 * n ≤ p ∧ Hid (∃ vG G, TwJ W1 rb va vc b p vG G n wr))
 case atStart => exact ⟨0, 0, rfl, by omega, by omega, by omega, _, _, J0.out⟩
 case round =>
  obtain ⟨n, p, rfl, hkx, hp, hnp, K⟩ := hrel;have HNX : Hid (Calls Tryz.prog 13 #[.pointer (some ⟨rb, 0, none⟩)] wr fun e V =>
   (∃ (E : Nat), e = .returned (.tuple #[.agg ziC, .bool false, .int .i64 (E : Nat)]) ∧ Hid (∃ (a : Nat) (G : List Pr), ∀ V2, Nw V V2 → TwE W1 rb va vc b a E G n V2)) ∨
   (∃ y : Ix, e = .returned (.tuple #[.agg y.C, .bool true, .int .i64 0]) ∧ Hid (∃ (a : Nat), p + 512 ≤ a ∧ a ≤ N ∧ 512 * (n + 1) ≤ a ∧ ∀ V2, Nw V V2 → ∃ vG' G', TwJ W1 rb va vc b a vG' G' (n + 1) V2))) := by
   obtain ⟨vG, G, h⟩ := K.out;have hEB : EnvB W1.heap.size wr := HEB.out.fr h.fr (Nat.le_refl _) (fun k hk => hk.elim);have hNX := qNext_any wr p vG G h.rl h.ok W1.heap.size hEB ⟨h.fr.size, h.le⟩ (fun _ => False) h.gz (fun k hk => hk.elim);refine hNX.mono fun e V hA => ?_
   cases hR : nx b p G ah0 none with
   | fin a G' =>
    rw [hR] at hA;obtain ⟨vG', rfl, h1, h2, h3, h4⟩ := hA;exact .inl ⟨0, rfl, a, G', fun V2 hV => h.fin hR h1 h2 h3 hV⟩
   | bad a E G' =>
    rw [hR] at hA;obtain ⟨rfl, h1, vG', h2⟩ := hA;have hne := (nx_err _ (Nat.le_refl _) (by have := HN.out; omega) (fun f h => by cases h) hR).1;exact .inl ⟨E, rfl, a, G', fun V2 hV => h.bad hR hne h1 h2 hV⟩
   | more x a G' =>
    rw [hR] at hA;obtain ⟨vM, vP, vG', rfl, h1, h2, h3, h4, h5, h6, h7⟩ := hA;obtain ⟨a1, m1, c1, e1⟩ := h4.1;obtain ⟨a2, m2, c2, e2⟩ := h6;subst e1 e2;have hx := nx_end hR;have hN := HN.out;exact .inr ⟨⟨x, a1, m1, c1, a2, m2, c2⟩, rfl, a, hx.1, by omega, by omega, fun V2 hV2 => ⟨vG', G', h.more hR h1 h2 h3 h7 hV2⟩⟩
  go_wp2_with fail
  go_at_call 13
  with_reducible refine HNX.out.mono ?_
  clear HNX K;rintro e V (⟨E, rfl, K2⟩ | ⟨y, rfl, K2⟩);rotate_left
  ·obtain ⟨a, hp1, hp2, hp3, K3⟩ := K2;obtain ⟨W2, e1⟩ : ∃ W2, (V.alloc (.cells #[.string ⟨#[]⟩, .int .i64 0, .int .u32 0, .int .u32 0, .int .u32 0, .int .i64 0, .int .i32 0, .string ⟨#[]⟩, .string ⟨#[]⟩, .string ⟨#[]⟩, .int .i64 0, .int .u8 0, .int .i64 0, .int .u8 0, .int .i64 0, .int .i64 0, .int .i64 0, .int .i64 0, .int .i64 0, .bool false, .slice none 0 0, .slice none 0 0] 36)).setRow V.heap.size y.C = W2 := ⟨_, rfl⟩;have n1 : Nw V W2 := by rw [← e1]; exact ((Fr.refl _ _).alloc _).setRow _ _ (.inr (Nat.le_refl _))
   have K4 := tHid (K3 W2 n1);have HONE : Hid (y.C.all (·.oneCell') = true) := by show _ = _; simp [Ix.C, icC, Value.oneCell']
   have E1 := tHid e1;obtain ⟨n', hn'⟩ : ∃ n', n + 1 = n' := ⟨_, rfl⟩;rw [hn'] at K4 hp3;have hi : ((n : Int) + 1) = (n' : Int) := by omega
   have hw : IntKind.i64.wrap (n' : Int) = (n' : Int) := by rw [IntKind.wrap_i64]; omega
   have hno : ¬ ((N : Int) < (n' : Int)) := by omega
   clear e1 n1 K3 hn'
   go_wp2_with (first | (refine wpList_store_row rfl 36 _ _ rfl V.heap.size y.C (by first | rfl | simp [Act.eval]) (by first | rfl | simp [Act.eval]) 36 _ (newHeap _ _) ixI rfl HONE.out ?_; rw [E1.out]) | fail)
   go_roundg (gk - 512)
   case measure => omega
   case rel => exact ⟨n', a, rfl, by omega, by omega, by omega, K4.out⟩
  ·obtain ⟨a, G, K3⟩ := K2;obtain ⟨W2, e1⟩ : ∃ W2, (V.alloc (.cells #[.string ⟨#[]⟩, .int .i64 0, .int .u32 0, .int .u32 0, .int .u32 0, .int .i64 0, .int .i32 0, .string ⟨#[]⟩, .string ⟨#[]⟩, .string ⟨#[]⟩, .int .i64 0, .int .u8 0, .int .i64 0, .int .u8 0, .int .i64 0, .int .i64 0, .int .i64 0, .int .i64 0, .int .i64 0, .bool false, .slice none 0 0, .slice none 0 0] 36)).setRow V.heap.size ziC = W2 := ⟨_, rfl⟩;have n1 : Nw V W2 := by rw [← e1]; exact ((Fr.refl _ _).alloc _).setRow _ _ (.inr (Nat.le_refl _))
   have T0 := tHid (K3 W2 n1);have HZ0 : Hid ((ziC : Array Value).all (·.oneCell') = true) := by show _ = _; simp [ziC, Value.oneCell']
   have E1 := tHid e1;have N2 : Hid (Nw w W2) := N1.out.trans T0.out.fr;clear e1 n1 K3 J0 HEB N1;obtain ⟨g2, c2, W3, HA2, o2, l2, n3⟩ := copyR W2 (.slice xb N cb) b ((by rw [← HN.out]; exact (Sl.nw HB.out N2.out).mono (fun _ h => h.elim))) (by rw [HN.out]; omega);rw [HN.out] at HA2 o2
   have HR1 : Hid (Calls Tryz.prog 9 #[.slice (some ⟨g2, 0, none⟩) N c2] W3 fun e V' => ∃ (av : Option Addr) (cv : Nat), e = .returned (.tuple #[.slice av n cv, .int .i64 (a : Nat), .int .i64 (E : Nat)]) ∧ Hid (∃ (L : List Ix), L.length = n ∧ rdR b 0 [] = (L.map (·.x), a, E, G) ∧ Nw W3 V' ∧ n ≤ cv ∧ cv < 9223372036854775808 ∧ ∃ og, OgR RIx og (.slice av n cv) L V' ∧ ∀ y ∈ L, IxW (fun _ => False) y V')) := by
    have hold : Old W3 (.slice (some ⟨g2, 0, none⟩) b.length c2) b := by rw [HN.out]; exact o2.old
    have := qRead_any W3 (some ⟨g2, 0, none⟩) c2 b hold (by rw [HN.out]; omega) (HE.out.nw (N2.out.trans n3));rw [HN.out] at this;obtain ⟨l, hl, heq⟩ := T0.out.eq;exact this.mono fun e V' h => by
     obtain ⟨Ln, av, cv, a2, E2, rfl, L, G2, k1, k2, k3, k4, k5, og, k6, k7, k8⟩ := reF h;rw [heq] at k2;simp only [Prod.mk.injEq] at k2;obtain ⟨j1, j2, j3, j4⟩ := k2;subst j1 j2 j3 j4;rw [List.length_map] at hl;have : Ln = n := by omega
     subst this;exact ⟨av, cv, rfl, L, hl, heq, k3, k4, k5, og, k6, fun y hy => (k8 y hy).mono (fun _ h => h.elim)⟩
   have N3 := tHid n3;clear o2 l2 n3;go_upto_region 8 with (first | (refine wpList_store_row rfl 36 _ _ rfl V.heap.size ziC (by first | rfl | simp [Act.eval]) (by first | rfl | simp [Act.eval]) 36 _ (newHeap _ _) ziI rfl HZ0.out ?_; rw [E1.out]) | fail);clear E1 HZ0;go_upto_region 13 with (first
    | (at_builtin; refine Lib.wpList_append_run _ rfl _ _ 22 22 rfl (.slice (some ⟨W2.heap.size, 0, none⟩) 0 0) (.slice xb N cb) (by first | rfl | simp [Act.eval]) (by first | rfl | simp [Act.eval]) _ _ (HA2.out _) ?_)
    | (go_at_call 9; with_reducible refine HR1.out.mono ?_; rintro e V3 ⟨av, cv, rfl, K3⟩)
    | fail)
   obtain ⟨L1, hL1, hr1, n4, hcv1, hcv2, og1, lo1, it1⟩ := K3;have T1 := tHid (T0.out.nw (N3.out.trans n4));have N4 : Hid (Nw w V3) := (N2.out.trans N3.out).trans n4;have HL1 := tHid hL1;have HR := tHid hr1;have HLO1 := tHid lo1;have HIT1 := tHid it1;clear T0 N2 N3 n4 hL1 hr1 lo1 it1 HA2 HR1;have HAT : Hid (Calls Tryz.prog 14 #[.pointer (some ⟨rb, 0, none⟩)] V3 fun e w' => e = .returned (.int .i64 (a : Nat)) ∧ V3 = w') := by
    obtain ⟨vG', r⟩ := T1.out.row;exact (qAtRow_any V3 rb a _ vG' _ r).mono fun e w' h => ⟨h.1, h.2.symm⟩
   go_upto_region 15 with (first
    | (go_at_call 14; with_reducible refine HAT.out.mono ?_; rintro e V4 ⟨rfl, rfl⟩)
    | fail)
   clear HAT;by_cases hE0 : E = 0;rotate_left
   ·have hEI : ¬ ((E : Int) = 0) := by omega
    go_wp2_with fail
    exact HP.out _ N4.out
   subst hE0;by_cases haN : a = N;rotate_left
   ·have haI : ¬ ((a : Int) = (N : Int)) := by omega
    go_wp2_with fail
    exact HP.out _ N4.out
   subst haN;obtain ⟨Gn, hGn⟩ : ∃ Gn, G.length = Gn := ⟨_, rfl⟩;have HGB : Hid (Calls Tryz.prog 15 #[.pointer (some ⟨rb, 0, none⟩)] V3 fun e V' => ∃ (av : Option Addr) (cv : Nat), e = .returned (.slice av Gn cv) ∧ Hid (Nw V3 V')) := by
    obtain ⟨ok, vG', r⟩ := T1.out.gl rfl;exact (qGlobals_any r (by have := ok.1; omega)).mono fun e V' h => by
     obtain ⟨v, rfl, h1, og, h2, _⟩ := h;obtain ⟨av, cv, rfl, _, _⟩ := h2.form;exact ⟨av, cv, by rw [hGn], h1⟩
   by_cases hG0 : Gn = 0;rotate_left
   ·have hGI : (0 : Int) < (Gn : Int) := by omega
    go_wp2_with (first
     | (go_at_call 15; with_reducible refine HGB.out.mono ?_; rintro e V5 ⟨av5, cv5, rfl, K5⟩)
     | fail)
    exact HP.out _ (N4.out.trans K5.out)
   subst hG0;go_upto_region 17 with (first
    | (go_at_call 15; with_reducible refine HGB.out.mono ?_; rintro e V5 ⟨av5, cv5, rfl, K5⟩)
    | fail)
   have N5 : Hid (Nw w V5) := N4.out.trans K5.out;have hG : G = [] := List.length_eq_zero_iff.1 hGn;subst hG;clear HGB hGn T1 N4;obtain ⟨g3, c3, W6, HA3, o3, l3, n6⟩ := copyR V5 (.slice xd M cd) d ((by rw [← HM.out]; exact (Sl.nw HD.out N5.out).mono (fun _ h => h.elim))) (by rw [HM.out]; omega);rw [HM.out] at HA3 o3
   have HR3 : Hid (Calls Tryz.prog 9 #[.slice (some ⟨g3, 0, none⟩) M c3] W6 fun e V' => ∃ (Lm : Nat) (av2 : Option Addr) (cv2 a2 E2 : Nat), e = .returned (.tuple #[.slice av2 Lm cv2, .int .i64 (a2 : Nat), .int .i64 (E2 : Nat)]) ∧ Hid (∃ (L : List Ix) (G : List Pr), L.length = Lm ∧ rdR d 0 [] = (L.map (·.x), a2, E2, G) ∧ Nw W6 V' ∧ Lm ≤ cv2 ∧ cv2 < 9223372036854775808 ∧ ∃ og, OgR RIx og (.slice av2 Lm cv2) L V' ∧ (∀ g, og = some g → W6.heap.size ≤ g) ∧ ∀ y ∈ L, IxW (fun k => og = some k ∨ k < W6.heap.size ∨ V'.heap.size ≤ k) y V')) := by
    have hold : Old W6 (.slice (some ⟨g3, 0, none⟩) d.length c3) d := by rw [HM.out]; exact o3.old
    have := qRead_any W6 (some ⟨g3, 0, none⟩) c3 d hold (by rw [HM.out]; omega) (HE.out.nw (N5.out.trans n6));rw [HM.out] at this;exact this.mono fun e V' h => reF h
   have N6 : Hid (Nw w W6) := N5.out.trans n6;have M6 : Hid (Nw V5 W6) := n6;clear o3 l3 n6;go_upto_region 18 with (first
    | (at_builtin; refine Lib.wpList_append_run _ rfl _ _ 22 22 rfl (.slice (some ⟨V5.heap.size, 0, none⟩) 0 0) (.slice xd M cd) (by first | rfl | simp [Act.eval]) (by first | rfl | simp [Act.eval]) _ _ (HA3.out _) ?_)
    | (go_at_call 9; with_reducible refine HR3.out.mono ?_; rintro e V7 ⟨Lm, av2, cv2, a2, E2, rfl, K7⟩)
    | fail)
   obtain ⟨L2, G2, hL2, hr2, n7, hcv3, hcv4, og2, lo2, op2, it2⟩ := K7;have N7 : Hid (Nw w V7) := N6.out.trans n7;have HL2 := tHid hL2;have HLO2 := tHid lo2;have HIT2 : Hid (∀ y ∈ L2, IxW (fun _ => False) y V7) := fun y hy => (it2 y hy).mono (fun _ h => h.elim)
   have HLO1b : Hid (OgR RIx og1 (.slice av n cv) L1 V7) := HLO1.out.nw ((K5.out.trans M6.out).trans n7);have HIT1b : Hid (∀ y ∈ L1, IxW (fun _ => False) y V7) := fun y hy => (HIT1.out y hy).nw ((K5.out.trans M6.out).trans n7)
   obtain ⟨tb1, tb2, _⟩ := total_pure hr2;rw [hL2, HM.out] at tb1;rw [HM.out] at tb2;have HR2 := tHid hr2;clear hL2 lo2 it2 op2 HR3 HA3;clear HLO1 HIT1 K5 M6 N5 N6;obtain ⟨g4, c4, W8, HA4, o4, l4, n8⟩ := copyR V7 (.slice xb a cb) b ((by rw [← HN.out]; exact (Sl.nw HB.out N7.out).mono (fun _ h => h.elim))) (by rw [HN.out]; omega);obtain ⟨v5, g5, W9, ha5, o5, f5, l5⟩ := app_any W8 g4 _ _ o4 (.slice xd M cd) d (by rw [← HM.out]; exact (Sl.nw HD.out (N7.out.trans n8)).mono (fun _ h => h.elim)) (by rw [HN.out, HM.out]; omega);have n9 : Nw V7 W9 := n8.then f5 (fun i hi => .inr (by omega))
   rw [HN.out] at HA4 ha5;have hql : (b ++ d).length = a + M := by rw [List.length_append, HN.out, HM.out]
   obtain ⟨x5, e5, _⟩ := id o5;rw [hql] at e5;subst e5;have HA5 := tHid ha5
   have HR5 : Hid (Calls Tryz.prog 9 #[.slice (some ⟨g5, 0, none⟩) (a + M) x5.length] W9 fun e V' => ∃ (av3 : Option Addr) (cv3 : Nat), e = .returned (.tuple #[.slice av3 (n + Lm) cv3, .int .i64 ((a2 + a : Nat) : Int), .int .i64 (E2 : Nat)]) ∧ Hid (∃ (L : List Ix), L.length = n + Lm ∧ (∀ (i : Nat) (y : Ix), L[i]? = some y → (i < n → ∃ z, L1[i]? = some z ∧ y.x = z.x) ∧ (¬ i < n → ∃ z, L2[i - n]? = some z ∧ y.x = shI a z.x ∧ z.x.next ≤ M ∧ z.x.frm ≤ z.x.next ∧ z.x.head ≤ z.x.next ∧ z.x.data ≤ z.x.next)) ∧ Nw W9 V' ∧ n + Lm ≤ cv3 ∧ cv3 < 9223372036854775808 ∧ ∃ og, OgR RIx og (.slice av3 (n + Lm) cv3) L V' ∧ ∀ y ∈ L, IxW (fun _ => False) y V')) := by
    have hold : Old W9 (.slice (some ⟨g5, 0, none⟩) (b ++ d).length x5.length) (b ++ d) := by rw [hql]; exact o5.old
    have := qRead_any W9 (some ⟨g5, 0, none⟩) x5.length _ hold (by rw [hql]; omega) (HE.out.nw (N7.out.trans n9));rw [hql] at this;exact this.mono fun e V' h => by
     obtain ⟨Ln3, av3, cv3, a3, E3, rfl, L3, G3, k1, k2, k3, k4, k5, og, k6, k7, k8⟩ := reF h;obtain ⟨q1, q2, q3, q4⟩ := two_pure (by rw [HN.out]; exact HR.out) HR2.out k2;rw [HL1.out, HL2.out] at q3;rw [HN.out] at q2;rw [HL1.out, HN.out, HM.out] at q4;subst q1 q2;obtain rfl : Ln3 = n + Lm := by omega
     exact ⟨av3, cv3, rfl, L3, q3, q4, k3, k4, k5, og, k6, fun y hy => (k8 y hy).mono (fun _ h => h.elim)⟩
   have N9 : Hid (Nw w W9) := N7.out.trans n9;have M9 : Hid (Nw V7 W9) := n9;obtain ⟨Q3, hQ3⟩ : ∃ Q3, n + Lm = Q3 := ⟨_, rfl⟩;obtain ⟨P3, hP3⟩ : ∃ P3, a2 + a = P3 := ⟨_, rfl⟩;rw [hQ3, hP3] at HR5;have kq : (n : Int) + (Lm : Int) = (Q3 : Int) := by omega
   have kqw : IntKind.i64.wrap (Q3 : Int) = (Q3 : Int) := by rw [IntKind.wrap_i64]; omega
   have kp : (a2 : Int) + (a : Int) = (P3 : Int) := by omega
   have kpw : IntKind.i64.wrap (P3 : Int) = (P3 : Int) := by rw [IntKind.wrap_i64]; omega
   clear hql o4 l4 n8 ha5 o5 f5 l5 n9 HR2 HR hP3;generalize x5.length = X at *;generalize a + M = Q5 at *;go_upto_region 19 with (first
    | (at_builtin; refine Lib.wpList_append_run _ rfl _ _ 22 22 rfl (.slice (some ⟨V7.heap.size, 0, none⟩) 0 0) (.slice xb a cb) (by first | rfl | simp [Act.eval]) (by first | rfl | simp [Act.eval]) _ _ (HA4.out _) ?_)
    | (at_builtin; refine Lib.wpList_append_run _ rfl _ _ 22 22 rfl (.slice (some ⟨g4, 0, none⟩) a c4) (.slice xd M cd) (by first | rfl | simp [Act.eval]) (by first | rfl | simp [Act.eval]) _ _ (HA5.out _) ?_)
    | (go_at_call 9; with_reducible refine HR5.out.mono ?_; rintro e V10 ⟨av3, cv3, rfl, K10⟩)
    | fail)
   obtain ⟨L3, hL3, hpos, n10, hcv5, hcv6, og3, lo3, it3⟩ := K10;have N10 : Hid (Nw w V10) := N9.out.trans n10;have HL3 := tHid hL3;have HPOS := tHid hpos;have HLO3 := tHid lo3;have HIT3 := tHid it3;have HA1 : Hid (OgR RIx og1 (.slice av n cv) L1 V10) := HLO1b.out.nw (M9.out.trans n10);have HI1 : Hid (∀ y ∈ L1, IxW (fun _ => False) y V10) := fun y hy => (HIT1b.out y hy).nw (M9.out.trans n10)
   have HA2 : Hid (OgR RIx og2 (.slice av2 Lm cv2) L2 V10) := HLO2.out.nw (M9.out.trans n10);have HI2 : Hid (∀ y ∈ L2, IxW (fun _ => False) y V10) := fun y hy => (HIT2.out y hy).nw (M9.out.trans n10)
   clear hL3 hpos n10 lo3 it3 HLO1b HIT1b HLO2 HIT2 HA4 HA5 HR5 N9 M9 N7
   go_wp2_with fail
   go_loopg [19, 20] Q3 (fun kx v19 v20 wr => ∃ I : Nat, I ≤ Q3 ∧ Q3 - I ≤ kx ∧ v19 = .int .i64 I ∧ Hid (Nw V10 wr))
   case atStart => exact ⟨0, by omega, by omega, rfl, Fr.refl _ _⟩
   case round =>
    obtain ⟨I, hI, hkx2, rfl, K⟩ := hrel;by_cases hlt : I < Q3;rotate_left
    ·have hIi : ¬ (I : Int) < (Q3 : Int) := by omega
     go_wp2_with fail
     exact HP.out _ (N10.out.trans K.out)
    have hIi : (I : Int) < (Q3 : Int) := by omega
    have hI3 : I < L3.length := by have := HL3.out; omega
    obtain ⟨g6, hg6⟩ : ∃ g, og3 = some g := by
     cases og3 with
     | none => have := HLO3.out.2; rw [this] at hI3; simp at hI3
     | some g => exact ⟨g, rfl⟩
    subst hg6;have ow3 : OwR RIx g6 (.slice av3 Q3 cv3) L3 wr := (show OwR RIx g6 _ L3 V10 from HLO3.out).nw K.out;obtain ⟨cc3, ev3, _, _⟩ := ow3.form;injection ev3 with ea3 eb3 ec3;clear eb3 ec3;subst ea3;obtain ⟨y, hy⟩ : ∃ y, L3[I]? = some y := ⟨_, List.getElem?_eq_getElem hI3⟩;have iy : IxW (fun _ => False) y V10 := HIT3.out y (List.mem_of_getElem? hy);have hps := HPOS.out I y hy;obtain ⟨C3, hC3⟩ : ∃ C3, y.C.toList = C3 := ⟨_, rfl⟩;have HZ3 : Hid ((Tryz.prog.info? 36).map (·.size) = some C3.length) := by rw [← hC3]; exact ixI
    have hR3 : ∀ U, Nw wr U → U.rangeAt g6 (I * 22) C3 := fun U hU j v hv => by
     rw [← hC3] at hv;have := (ow3.nw hU).cell rixOk I j y v hy hv;exact this.1
    obtain ⟨W11, e11⟩ : ∃ W11, (wr.alloc (.cells #[.string ⟨#[]⟩, .int .i64 0, .int .u32 0, .int .u32 0, .int .u32 0, .int .i64 0, .int .i32 0, .string ⟨#[]⟩, .string ⟨#[]⟩, .string ⟨#[]⟩, .int .i64 0, .int .u8 0, .int .i64 0, .int .u8 0, .int .i64 0, .int .i64 0, .int .i64 0, .int .i64 0, .int .i64 0, .bool false, .slice none 0 0, .slice none 0 0] 36)).setRow wr.heap.size ziC = W11 := ⟨_, rfl⟩;have n11 : Nw wr W11 := by rw [← e11]; exact ((Fr.refl _ _).alloc _).setRow _ _ (.inr (Nat.le_refl _))
    have R11 : Hid (W11.heap[wr.heap.size]? = some (.cells ziC 36)) := by rw [← e11]; exact setRow_heap _ _ _ _ 36 _ (newHeap _ _)
    have HZ0 : Hid ((ziC : Array Value).all (·.oneCell') = true) := by show _ = _; simp [ziC, Value.oneCell']
    have E11 := tHid e11;clear e11;by_cases hl1 : I < n
    ·
     have hi1 : (I : Int) < (n : Int) := by omega
     obtain ⟨z, hz, hyz⟩ := hps.1 hl1;have hlq : I < L1.length := by have := HL1.out; omega
     obtain ⟨g7, hg7⟩ : ∃ g, og1 = some g := by
      cases og1 with
      | none => have := HA1.out.2; rw [this] at hlq; simp at hlq
      | some g => exact ⟨g, rfl⟩
     subst hg7;have ow7 : OwR RIx g7 (.slice av n cv) L1 wr := (show OwR RIx g7 _ L1 V10 from HA1.out).nw K.out;obtain ⟨cc7, ev7, _, _⟩ := ow7.form;injection ev7 with ea7 eb7 ec7;clear eb7 ec7;subst ea7;have iz0 : IxW (fun _ => False) z V10 := HI1.out z (List.mem_of_getElem? hz);obtain ⟨CB, hCB⟩ : ∃ CB, z.C.toList = CB := ⟨_, rfl⟩;have HZB : Hid ((Tryz.prog.info? 36).map (·.size) = some CB.length) := by rw [← hCB]; exact ixI
     have HZBA : Hid ((Tryz.prog.info? 36).map (·.size) = some CB.toArray.size) := by rw [← hCB]; exact ixI
     have HSZB : Hid (ziC.size = CB.toArray.size) := by rw [← hCB]; rfl
     have HONE : Hid (CB.toArray.all (·.oneCell') = true) := by rw [← hCB, Array.toArray_toList]; show _ = _; simp [Ix.C, icC, Value.oneCell']
     have HRB : Hid (W11.rangeAt g7 (I * 22) CB) := fun j v hv => by
      rw [← hCB] at hv;have := (ow7.nw n11).cell rixOk I j z v hz hv;exact this.1
     obtain ⟨W12, e12⟩ : ∃ W12, W11.setRow wr.heap.size CB.toArray = W12 := ⟨_, rfl⟩;have n12 : Nw wr W12 := by rw [← e12]; exact n11.setRow _ _ (.inr (Nat.le_refl _))
     have r12 : W12.heap[wr.heap.size]? = some (.cells CB.toArray 36) := by rw [← e12]; exact setRow_heap _ _ _ _ 36 _ R11.out
     have E12 := tHid e12;clear e12 ow7;have iz := iz0;have hC1 := hCB;have HZ1 := HZB;have NW : Hid (Nw wr W12) := n12;have KK := K;have rW := r12;clear n12;go_upto_region 29 with (first
      | (refine wpList_store_row rfl 36 _ _ rfl wr.heap.size ziC (by first | rfl | simp [Act.eval]) (by first | rfl | simp [Act.eval]) 36 _ (newHeap _ _) ziI rfl HZ0.out ?_; rw [E11.out])
      | (refine wpList_load_mid rfl 36 _ rfl g7 (I * 22) (by first | rfl | simp [Act.eval]) CB _ HRB.out Tryz.underlying36 rfl HZB.out ?_)
      | (refine wpList_store_row rfl 36 _ _ rfl wr.heap.size CB.toArray (by first | rfl | simp [Act.eval]) (by first | rfl | simp [Act.eval]) 36 _ R11.out HZBA.out HSZB.out HONE.out ?_; rw [E12.out])
      | fail)
     have HSM : Hid (∀ V, Nw W12 V → Calls Tryz.prog 11 #[.agg C3.toArray, .agg CB.toArray] V fun e w' => e = .returned (.bool true) ∧ Hid (Nw W12 w')) := fun V hV => by
      rw [← hC1, ← hC3, Array.toArray_toList, Array.toArray_toList];exact (qxsame_any V y z hyz (iy.nw ((K.out.trans NW.out).trans hV)) (iz.nw ((K.out.trans NW.out).trans hV))).mono fun e w' h => ⟨h.1, hV.trans h.2⟩
     have HK5 : Hid (∀ V, Hid (Nw W12 V) → V.rangeAt g6 (I * 22) C3 ∧ V.rangeAt wr.heap.size 0 CB) := fun V hV => ⟨hR3 V (NW.out.trans hV), fun j v hv => by rw [Nat.zero_add]; exact cell_of (Nw.heap hV rW) j v (by simpa using hv)⟩
     have HS29 : Hid (W12.drew.rangeAt g6 (I * 22) C3 ∧ W12.drew.rangeAt wr.heap.size 0 CB) := HK5.out _ ((Fr.refl _ _).drew);clear hps hy hyz hI3 ow3 iy iz hC1 hC3 hR3 HPOS rW;go_upto_region 29 with fail;refine wp_region_held_drew (S := fun U => U.rangeAt g6 (I * 22) C3 ∧ U.rangeAt wr.heap.size 0 CB) (by kernel_rfl) HS29.out (fun hHeld => ?_);refine tkH (i := 0) (oi := ⟨some 160, .move (.tmp 16), 24, "outright.go:121", #[], none⟩) (v := ?_) rfl ?_ ?_;rotate_left
     ·intro U hSw; obtain ⟨hSw0, hSw1⟩ := hSw; (go_simp <;> with_reducible rfl)
     try simp only [Act.put, nz1, nz2, nz3]
     refine tkH (i := 1) (oi := ⟨some 161, .move (.tmp 19), 3, "outright.go:121", #[], none⟩) (v := ?_) rfl ?_ ?_;rotate_left
     ·intro U hSw; obtain ⟨hSw0, hSw1⟩ := hSw; (go_simp <;> with_reducible rfl)
     try simp only [Act.put, nz1, nz2, nz3]
     refine tkH (i := 2) (oi := ⟨some 162, .indexAddr 24 (.tmp 160) (.tmp 161), 0, "outright.go:121", #[⟨0, .data⟩, ⟨1, .data⟩], none⟩) (v := ?_) rfl ?_ ?_;rotate_left
     ·intro U hSw; obtain ⟨hSw0, hSw1⟩ := hSw; (go_simp <;> with_reducible rfl)
     try simp only [Act.put, nz1, nz2, nz3]
     refine wpAnyH_take (i := 3) (oi := ⟨some 163, .load 36 (.tmp 162), 36, "outright.go:121", #[⟨2, .data⟩], none⟩) (v := .agg C3.toArray) rfl (by kernel_rfl) (by kernel_rfl) (by kernel_rfl) (fun _ _ _ h => h) (yieldsIf_load_mid (by rfl) _ _ rfl g6 (I * 22) rfl C3 _ (fun U hU => hU.1) Tryz.underlying36 rfl HZ3.out) (by assumption) ?_;try simp only [Act.put, nz1, nz2, nz3]
     refine wpAnyH_take (i := 4) (oi := ⟨some 164, .load 36 (.tmp 20), 36, "outright.go:121", #[], none⟩) (v := .agg CB.toArray) rfl (by kernel_rfl) (by kernel_rfl) (by kernel_rfl) (fun _ _ _ h => h) (yieldsIf_load_mid (by rfl) _ _ rfl wr.heap.size 0 rfl CB _ (fun U hU => hU.2) Tryz.underlying36 rfl HZ1.out) (by assumption) ?_;try simp only [Act.put, nz1, nz2, nz3]
     refine wpAnyH_ready (rs := [5]) (by kernel_rfl) (by simp) ?_;refine AllReadyH.cons (o := ⟨some 165, .call ⟨.value (.func 11), #[.tmp 163, .tmp 164], #[36, 36]⟩, 4, "outright.go:121", #[⟨3, .data⟩, ⟨4, .data⟩], none⟩) rfl (fun K hK => ?_) AllReadyH.nil;go_simp;go_at_call 11; with_reducible refine (HSM.out _ ((Fr.refl _ _).drew)).mono ?_; rintro e w5 ⟨rfl, K5⟩
     (try go_wp2_with fail)
     refine hK.out _ _ ?_ (fun hHeld5 => ?_)
     ·exact HK5.out _ K5.out
     clear hK;try simp only [Act.put, nz1, nz2, nz3]
     refine tkH (i := 6) (oi := ⟨some 166, .unOp UnOp.not 4 (.tmp 165), 4, "outright.go:121", #[⟨5, .data⟩], none⟩) (v := ?_) rfl ?_ ?_;rotate_left
     ·intro U hSw; obtain ⟨hSw0, hSw1⟩ := hSw; (go_simp <;> with_reducible rfl)
     try simp only [Act.put, nz1, nz2, nz3]
     refine wpAnyH_done (by kernel_rfl) ?_ _
     go_wp2_with fail
     go_roundg (Q3 - (I + 1))
     case measure => omega
     case rel => exact ⟨I + 1, by omega, by omega, by first | rfl | (congr 1), (KK.out.trans NW.out).trans K5.out⟩
    ·
     have hi1 : ¬ (I : Int) < (n : Int) := by omega
     obtain ⟨J, hJ⟩ : ∃ J, I - n = J := ⟨_, rfl⟩;obtain ⟨z, hz, hzx, q1, q2, q3, q4⟩ := hps.2 hl1;rw [hJ] at hz;have kj : (I : Int) - (n : Int) = (J : Int) := by omega
     have kjw : IntKind.i64.wrap (J : Int) = (J : Int) := by rw [IntKind.wrap_i64]; omega
     have hJi : (J : Int) < (Lm : Int) := by omega
     have hlq : J < L2.length := by have := HL2.out; omega
     obtain ⟨g7, hg7⟩ : ∃ g, og2 = some g := by
      cases og2 with
      | none => have := HA2.out.2; rw [this] at hlq; simp at hlq
      | some g => exact ⟨g, rfl⟩
     subst hg7;have ow7 : OwR RIx g7 (.slice av2 Lm cv2) L2 wr := (show OwR RIx g7 _ L2 V10 from HA2.out).nw K.out;obtain ⟨cc7, ev7, _, _⟩ := ow7.form;injection ev7 with ea7 eb7 ec7;clear eb7 ec7;subst ea7;have iz0 : IxW (fun _ => False) z V10 := HI2.out z (List.mem_of_getElem? hz);obtain ⟨CB, hCB⟩ : ∃ CB, z.C.toList = CB := ⟨_, rfl⟩;have HZB : Hid ((Tryz.prog.info? 36).map (·.size) = some CB.length) := by rw [← hCB]; exact ixI
     have HZBA : Hid ((Tryz.prog.info? 36).map (·.size) = some CB.toArray.size) := by rw [← hCB]; exact ixI
     have HSZB : Hid (ziC.size = CB.toArray.size) := by rw [← hCB]; rfl
     have HONE : Hid (CB.toArray.all (·.oneCell') = true) := by rw [← hCB, Array.toArray_toList]; show _ = _; simp [Ix.C, icC, Value.oneCell']
     have HRB : Hid (W11.rangeAt g7 (J * 22) CB) := fun j v hv => by
      rw [← hCB] at hv;have := (ow7.nw n11).cell rixOk J j z v hz hv;exact this.1
     obtain ⟨W12, e12⟩ : ∃ W12, W11.setRow wr.heap.size CB.toArray = W12 := ⟨_, rfl⟩;have n12 : Nw wr W12 := by rw [← e12]; exact n11.setRow _ _ (.inr (Nat.le_refl _))
     have r12 : W12.heap[wr.heap.size]? = some (.cells CB.toArray 36) := by rw [← e12]; exact setRow_heap _ _ _ _ 36 _ R11.out
     have E12 := tHid e12;clear e12 ow7;obtain ⟨z', hz'⟩ : ∃ z' : Ix, z' = ⟨shI a z.x, z.ma, z.mn, z.mc, z.pa, z.pn, z.pc⟩ := ⟨_, rfl⟩;have hyz : y.x = z'.x := by rw [hz']; exact hzx
     have iz : IxW (fun _ => False) z' V10 := by rw [hz']; exact ⟨iz0.m, iz0.p⟩
     have c14 : W12.cell? ⟨wr.heap.size, 14, none⟩ = some (.int .i64 (z.x.frm : Nat)) := cell_of r12 14 _ (by rw [← hCB]; rfl);have c15 : W12.cell? ⟨wr.heap.size, 15, none⟩ = some (.int .i64 (z.x.head : Nat)) := cell_of r12 15 _ (by rw [← hCB]; rfl);have c16 : W12.cell? ⟨wr.heap.size, 16, none⟩ = some (.int .i64 (z.x.data : Nat)) := cell_of r12 16 _ (by rw [← hCB]; rfl);have c17 : W12.cell? ⟨wr.heap.size, 17, none⟩ = some (.int .i64 (z.x.next : Nat)) := cell_of r12 17 _ (by rw [← hCB]; rfl)
     have z14 : W12.frozen? ⟨wr.heap.size, 14, none⟩ = false := row_froz r12 14 (.int .i64 (z.x.frm : Nat)) (by rw [← hCB]; rfl);have z15 : W12.frozen? ⟨wr.heap.size, 15, none⟩ = false := row_froz r12 15 (.int .i64 (z.x.head : Nat)) (by rw [← hCB]; rfl);have z16 : W12.frozen? ⟨wr.heap.size, 16, none⟩ = false := row_froz r12 16 (.int .i64 (z.x.data : Nat)) (by rw [← hCB]; rfl);have z17 : W12.frozen? ⟨wr.heap.size, 17, none⟩ = false := row_froz r12 17 (.int .i64 (z.x.next : Nat)) (by rw [← hCB]; rfl);obtain ⟨C1, hC1⟩ : ∃ C1, z'.C.toList = C1 := ⟨_, rfl⟩
     have HZ1 : Hid ((Tryz.prog.info? 36).map (·.size) = some C1.length) := by rw [← hC1]; exact ixI
     have rW0 : ((((W12.setCell ⟨wr.heap.size, 14, none⟩ (.int .i64 (a + z.x.frm : Nat))).setCell ⟨wr.heap.size, 15, none⟩ (.int .i64 (a + z.x.head : Nat))).setCell ⟨wr.heap.size, 16, none⟩ (.int .i64 (a + z.x.data : Nat))).setCell ⟨wr.heap.size, 17, none⟩ (.int .i64 (a + z.x.next : Nat))).heap[wr.heap.size]? = some (.cells C1.toArray 36) := by
      have q := row_setN (row_setN (row_setN (row_setN r12 14 (.int .i64 (a + z.x.frm : Nat))) 15 (.int .i64 (a + z.x.head : Nat))) 16 (.int .i64 (a + z.x.data : Nat))) 17 (.int .i64 (a + z.x.next : Nat));rw [q, ← hC1, ← hCB, hz', Array.toArray_toList, Array.toArray_toList];rfl
     obtain ⟨f0, hf0⟩ : ∃ f0, z.x.frm = f0 := ⟨_, rfl⟩;obtain ⟨f1, hf1⟩ : ∃ f1, z.x.head = f1 := ⟨_, rfl⟩;obtain ⟨f2, hf2⟩ : ∃ f2, z.x.data = f2 := ⟨_, rfl⟩;obtain ⟨f3, hf3⟩ : ∃ f3, z.x.next = f3 := ⟨_, rfl⟩;rw [hf0] at c14 rW0 q2;rw [hf1] at c15 rW0 q3;rw [hf2] at c16 rW0 q4;rw [hf3] at c17 rW0 q1 q2 q3 q4;clear hf0 hf1 hf2 hf3;obtain ⟨h0, hh0⟩ : ∃ h0, a + f0 = h0 := ⟨_, rfl⟩;obtain ⟨h1, hh1⟩ : ∃ h1, a + f1 = h1 := ⟨_, rfl⟩;obtain ⟨h2, hh2⟩ : ∃ h2, a + f2 = h2 := ⟨_, rfl⟩;obtain ⟨h3, hh3⟩ : ∃ h3, a + f3 = h3 := ⟨_, rfl⟩;rw [hh0, hh1, hh2, hh3] at rW0
     have a0 : (f0 : Int) + (a : Int) = (h0 : Int) := by omega
     have a1 : (f1 : Int) + (a : Int) = (h1 : Int) := by omega
     have a2' : (f2 : Int) + (a : Int) = (h2 : Int) := by omega
     have a3 : (f3 : Int) + (a : Int) = (h3 : Int) := by omega
     have b0 : IntKind.i64.wrap (h0 : Int) = (h0 : Int) := by rw [IntKind.wrap_i64]; omega
     have b1 : IntKind.i64.wrap (h1 : Int) = (h1 : Int) := by rw [IntKind.wrap_i64]; omega
     have b2 : IntKind.i64.wrap (h2 : Int) = (h2 : Int) := by rw [IntKind.wrap_i64]; omega
     have b3 : IntKind.i64.wrap (h3 : Int) = (h3 : Int) := by rw [IntKind.wrap_i64]; omega
     obtain ⟨W13, e13⟩ : ∃ W13, (((W12.setCell ⟨wr.heap.size, 14, none⟩ (.int .i64 (h0 : Nat))).setCell ⟨wr.heap.size, 15, none⟩ (.int .i64 (h1 : Nat))).setCell ⟨wr.heap.size, 16, none⟩ (.int .i64 (h2 : Nat))).setCell ⟨wr.heap.size, 17, none⟩ (.int .i64 (h3 : Nat)) = W13 := ⟨_, rfl⟩;rw [e13] at rW0;have rW := rW0;have NW : Hid (Nw wr W13) := by rw [← e13]; exact (((n12.setCell _ _ (.inr (Nat.le_refl _))).setCell _ _ (.inr (Nat.le_refl _))).setCell _ _ (.inr (Nat.le_refl _))).setCell _ _ (.inr (Nat.le_refl _))
     have E13 := tHid e13;have KK := K;clear e13 rW0 n12 r12 hh0 hh1 hh2 hh3 hz';go_upto_region 28 with (first
      | (refine wpList_store_row rfl 36 _ _ rfl wr.heap.size ziC (by first | rfl | simp [Act.eval]) (by first | rfl | simp [Act.eval]) 36 _ (newHeap _ _) ziI rfl HZ0.out ?_; rw [E11.out])
      | (refine wpList_load_mid rfl 36 _ rfl g7 (J * 22) (by first | rfl | simp [Act.eval]) CB _ HRB.out Tryz.underlying36 rfl HZB.out ?_)
      | (refine wpList_store_row rfl 36 _ _ rfl wr.heap.size CB.toArray (by first | rfl | simp [Act.eval]) (by first | rfl | simp [Act.eval]) 36 _ R11.out HZBA.out HSZB.out HONE.out ?_; rw [E12.out])
      | fail)
     go_upto_region 29 with fail
     rw [E13.out];clear c14 c15 c16 c17 z14 z15 z16 z17 a0 a1 a2' a3 b0 b1 b2 b3;have HSM : Hid (∀ V, Nw W13 V → Calls Tryz.prog 11 #[.agg C3.toArray, .agg C1.toArray] V fun e w' => e = .returned (.bool true) ∧ Hid (Nw W13 w')) := fun V hV => by
      rw [← hC1, ← hC3, Array.toArray_toList, Array.toArray_toList];exact (qxsame_any V y z' hyz (iy.nw ((K.out.trans NW.out).trans hV)) (iz.nw ((K.out.trans NW.out).trans hV))).mono fun e w' h => ⟨h.1, hV.trans h.2⟩
     have HK5 : Hid (∀ V, Hid (Nw W13 V) → V.rangeAt g6 (I * 22) C3 ∧ V.rangeAt wr.heap.size 0 C1) := fun V hV => ⟨hR3 V (NW.out.trans hV), fun j v hv => by rw [Nat.zero_add]; exact cell_of (Nw.heap hV rW) j v (by simpa using hv)⟩
     have HS29 : Hid (W13.drew.rangeAt g6 (I * 22) C3 ∧ W13.drew.rangeAt wr.heap.size 0 C1) := HK5.out _ ((Fr.refl _ _).drew);clear hps hy hyz hI3 ow3 iy iz hC1 hC3 hR3 HPOS rW;go_upto_region 29 with fail;refine wp_region_held_drew (S := fun U => U.rangeAt g6 (I * 22) C3 ∧ U.rangeAt wr.heap.size 0 C1) (by kernel_rfl) HS29.out (fun hHeld => ?_);refine tkH (i := 0) (oi := ⟨some 160, .move (.tmp 16), 24, "outright.go:121", #[], none⟩) (v := ?_) rfl ?_ ?_;rotate_left
     ·intro U hSw; obtain ⟨hSw0, hSw1⟩ := hSw; (go_simp <;> with_reducible rfl)
     try simp only [Act.put, nz1, nz2, nz3]
     refine tkH (i := 1) (oi := ⟨some 161, .move (.tmp 19), 3, "outright.go:121", #[], none⟩) (v := ?_) rfl ?_ ?_;rotate_left
     ·intro U hSw; obtain ⟨hSw0, hSw1⟩ := hSw; (go_simp <;> with_reducible rfl)
     try simp only [Act.put, nz1, nz2, nz3]
     refine tkH (i := 2) (oi := ⟨some 162, .indexAddr 24 (.tmp 160) (.tmp 161), 0, "outright.go:121", #[⟨0, .data⟩, ⟨1, .data⟩], none⟩) (v := ?_) rfl ?_ ?_;rotate_left
     ·intro U hSw; obtain ⟨hSw0, hSw1⟩ := hSw; (go_simp <;> with_reducible rfl)
     try simp only [Act.put, nz1, nz2, nz3]
     refine wpAnyH_take (i := 3) (oi := ⟨some 163, .load 36 (.tmp 162), 36, "outright.go:121", #[⟨2, .data⟩], none⟩) (v := .agg C3.toArray) rfl (by kernel_rfl) (by kernel_rfl) (by kernel_rfl) (fun _ _ _ h => h) (yieldsIf_load_mid (by rfl) _ _ rfl g6 (I * 22) rfl C3 _ (fun U hU => hU.1) Tryz.underlying36 rfl HZ3.out) (by assumption) ?_;try simp only [Act.put, nz1, nz2, nz3]
     refine wpAnyH_take (i := 4) (oi := ⟨some 164, .load 36 (.tmp 20), 36, "outright.go:121", #[], none⟩) (v := .agg C1.toArray) rfl (by kernel_rfl) (by kernel_rfl) (by kernel_rfl) (fun _ _ _ h => h) (yieldsIf_load_mid (by rfl) _ _ rfl wr.heap.size 0 rfl C1 _ (fun U hU => hU.2) Tryz.underlying36 rfl HZ1.out) (by assumption) ?_;try simp only [Act.put, nz1, nz2, nz3]
     refine wpAnyH_ready (rs := [5]) (by kernel_rfl) (by simp) ?_;refine AllReadyH.cons (o := ⟨some 165, .call ⟨.value (.func 11), #[.tmp 163, .tmp 164], #[36, 36]⟩, 4, "outright.go:121", #[⟨3, .data⟩, ⟨4, .data⟩], none⟩) rfl (fun K hK => ?_) AllReadyH.nil;go_simp;go_at_call 11; with_reducible refine (HSM.out _ ((Fr.refl _ _).drew)).mono ?_; rintro e w5 ⟨rfl, K5⟩
     (try go_wp2_with fail)
     refine hK.out _ _ ?_ (fun hHeld5 => ?_)
     ·exact HK5.out _ K5.out
     clear hK;try simp only [Act.put, nz1, nz2, nz3]
     refine tkH (i := 6) (oi := ⟨some 166, .unOp UnOp.not 4 (.tmp 165), 4, "outright.go:121", #[⟨5, .data⟩], none⟩) (v := ?_) rfl ?_ ?_;rotate_left
     ·intro U hSw; obtain ⟨hSw0, hSw1⟩ := hSw; (go_simp <;> with_reducible rfl)
     try simp only [Act.put, nz1, nz2, nz3]
     refine wpAnyH_done (by kernel_rfl) ?_ _
     go_wp2_with fail
     go_roundg (Q3 - (I + 1))
     case measure => omega
     case rel => exact ⟨I + 1, by omega, by omega, by first | rfl | (congr 1), (KK.out.trans NW.out).trans K5.out⟩
end Go.Proofs.YtlenihpbhlfcoaaGreatDoor
