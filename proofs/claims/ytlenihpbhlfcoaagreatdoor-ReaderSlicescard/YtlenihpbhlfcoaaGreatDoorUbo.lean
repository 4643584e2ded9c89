import Derived.Test.YtlenihpbhlfcoaaGreatDoorUbn
set_option maxHeartbeats 8000000
set_option maxRecDepth 100000
set_option linter.unusedSimpArgs false
set_option linter.unusedVariables false
namespace Go.Proofs.YtlenihpbhlfcoaaGreatDoor
open Go.RowKit Go.Deep
variable {Y : Nat → Prop} {rb : Nat} {va : Option Addr} {vc : Nat} {b : List By} {vG : Value} {G : List Pr}
theorem hasM_kind {k : Nat} {P : List Pr} (h : hasM k P = true) : k = 2 := by
 unfold hasM at h;rw [Bool.and_eq_true] at h;exact of_decide_eq_true h.1
theorem qbody_any {X : Nat → Prop} (w : World) (q : Nat) (hq : q + 512 ≤ b.length) (h : Hr) (hr : Rm Y rb va vc b (q + 512) vG G w) (vP : Value) (P : List Pr) (hP : SlR RP X vP P w) (hlen : P.length ≤ 1000000000) (xb fr z : Nat) (hX : ∀ k, k = rb ∨ k = xb → X k) (x : It) (hsp : x.sparse = false) (hhe : x.held ≤ 9223372036854775807) (hmp : x.map = [])
  (hi : w.heap[xb]? = some (.cells (icC x 0 fr q 0 0 (.slice none 0 0) vP) 36)) (hne : rb ≠ xb) (hy : Y xb) (hvl : VlB P) (B : Nat) (hE : EnvB B w) (hB : B ≤ w.heap.size ∧ B ≤ rb ∧ B ≤ xb) :
  Calls Tryz.prog 57 #[.pointer (some ⟨rb, 0, none⟩), .pointer (some ⟨xb, 0, none⟩), .agg (hdC h (fd b q 512) q), .agg #[vP, .int .i64 (q : Nat)], .int .i64 (z : Nat)] w (BoA Y rb va vc b vG G xb q fr vP (boR (b.drop q) h P x z) w) := by
 rcases Bool.eq_false_or_eq_true (isOl h) with ho | ho
 ·exact qbody_old w q hq h hr vP P hP hlen xb fr z hX x hhe hi hne hy ho
 ·rcases Bool.eq_false_or_eq_true (hasM x.kind P) with hm | hm
  ·exact qbody_map w q hq h hr vP P hP hlen xb fr z hX x hhe hi hne hy ho hm (hasM_kind hm) hvl B hE hB
  ·exact qbody_plain w q hq h hr vP P hP hlen xb fr z hX x hsp hhe hmp hi hne hy ho hm
theorem merge_len16 (b a : List Pr) : (mergeV b a).length ≤ b.length + a.length := by
 have h : ∀ (r out : List Pr), (mrg r out).length ≤ r.length + out.length := fun r => by
  induction r with
  | nil => intro out; simp [mrg]
  | cons x r ih =>
   intro out;rw [mrg];split
   ·have := ih (insP x out);rw [insP_len] at this;simp only [List.length_cons]; omega
   ·have := ih out;simp only [List.length_cons]; omega
 have := h (b ++ a) [];rw [List.length_append, List.length_nil] at this;unfold mergeV;omega
theorem hdP_len {G : List Pr} {A : Ah} (h1 : G.length ≤ 1024) (h2 : A.loc.length ≤ 1024) : (hdP G A).length ≤ 2048 := by
 unfold hdP;split
 ·omega
 ·have := merge_len16 G A.loc;omega
theorem enR_eq (s : List By) (h : Hr) (G : List Pr) (A : Ah) : enR s h G A =
  if (nbP (hdP G A) kSize h.size.toNat).2 ≠ 0 then .bad 0 (nbP (hdP G A) kSize h.size.toNat).2 else
  if mtE h (hdP G A) ≠ 0 then .bad 0 (mtE h (hdP G A)) else
  boR s h (hdP G A) (itR h (hdP G A) A (nbP (hdP G A) kSize h.size.toNat).1 (idP (hdP G A) kUid h.uid.toNat).1 (idP (hdP G A) kGid h.gid.toNat).1 (tmP (hdP G A) h.time)) (nbP (hdP G A) kSize h.size.toNat).1 := by
 unfold enR mtE boR;split
 ·rfl
 by_cases h2 : (idP (hdP G A) kUid h.uid.toNat).2 ≠ 0
 ·simp only [if_pos h2]
 by_cases h3 : (idP (hdP G A) kGid h.gid.toNat).2 ≠ 0
 ·simp only [if_neg h2, if_pos h3]
 by_cases h4 : (tmP (hdP G A) h.time).2.2 ≠ 0
 ·simp only [if_neg h2, if_neg h3, if_pos h4]
 simp only [if_neg h2, if_neg h3, if_neg h4];by_cases ho : isOl h = true
 ·simp only [if_pos ho];by_cases h5 : roE (fd s 0 512) ≠ 0
  ·simp only [if_pos h5]
  simp only [if_neg h5];cases omR s 512 (decide ((fd s 0 512).getD 482 0 ≠ 0#8)) (rgL (rdO (fd s 0 512) 4 386 []).1) <;> rfl
 ·simp only [if_neg ho]
def RL (rb : Nat) (va : Option Addr) (vc : Nat) (b : List By) (p : Nat) (vG : Value) (G : List Pr) (w : World) : Prop := Rm (fun k => k = rb ∨ w.heap.size ≤ k) rb va vc b p vG G w
theorem RL.step {p : Nat} {w V : World} (h : Rm (fun k => k = rb ∨ w.heap.size ≤ k) rb va vc b p vG G V) (hs : w.heap.size ≤ V.heap.size) : RL rb va vc b p vG G V :=
 ⟨h.row, h.sl.mono (fun g hg => hg.elim .inl (fun hg => .inr (by omega))), h.gl.mono (fun g hg => hg.elim .inl (fun hg => .inr (by omega))), .inl rfl, h.pl, h.bl⟩
def EnA (rb : Nat) (va : Option Addr) (vc : Nat) (b : List By) (vG : Value) (G : List Pr) (q fr : Nat) (o : Out) (w : World) (e : Ending) (w' : World) : Prop :=
 match o with
 | .bad pl E => e = gvR ((q + pl : Nat) : Int) (E : Nat) ∧ Fr (fun k => k = rb) w w' ∧ Alv rb va vc b vG w'
 | .got y L => ∃ vM vP, e = .returned (.agg (icC y y.size fr q (q + y.data) (q + L) vM vP)) ∧ Hid (Fr (fun k => k = rb) w w' ∧ RL rb va vc b (q + L) vG G w' ∧ MpN w vM y.map w' ∧ NewP w vP y.pairs w' ∧ ∃ a n c, vP = .slice a n c)
 | _ => False
structure Et (w : World) (rb xb hb ab ob sb : Nat) (HC AC ZI : Array Value) (vP : Value) (P : List Pr) (q : Nat) (V : World) : Prop where
 fr : Fr (fun k => k = rb) w V
 hd : V.heap[hb]? = some (.cells HC 89)
 ah : V.heap[ab]? = some (.cells AC 85)
 ou : V.heap[ob]? = some (.cells ZI 36)
 sy : V.heap[sb]? = some (.cells #[vP, .int .i64 (q : Nat)] 121)
 pn : ∃ og, OgR RP og vP P V ∧ ∀ g, og = some g → w.heap.size ≤ g ∧ g ≠ xb
 ne : (hb ≠ rb ∧ ab ≠ rb ∧ ob ≠ rb ∧ sb ≠ rb) ∧ hb ≠ xb ∧ ab ≠ xb ∧ ob ≠ xb ∧ sb ≠ xb
 le : w.heap.size ≤ xb ∧ rb < w.heap.size
theorem Et.keep {w : World} {xb hb ab ob sb : Nat} {HC AC ZI : Array Value} {vP : Value} {P : List Pr} {q : Nat} {V U : World} (h : Et w rb xb hb ab ob sb HC AC ZI vP P q V) {X : Nat → Prop} (f : Fr X V U) (hX : ∀ k, X k → k = rb ∨ k = xb) : Et w rb xb hb ab ob sb HC AC ZI vP P q U := by
 obtain ⟨⟨n1, n2, n3, n4⟩, n5, n6, n7, n8⟩ := h.ne;have hx : ∀ k, k ≠ rb → k ≠ xb → ¬ X k := fun k h1 h2 h3 => (hX k h3).elim h1 h2
 refine ⟨h.fr.then f (fun i hi => ?_), cell_kept f h.hd (hx _ n1 n5), cell_kept f h.ah (hx _ n2 n6), cell_kept f h.ou (hx _ n3 n7), cell_kept f h.sy (hx _ n4 n8), ?_, h.ne, h.le⟩
 ·rcases hX i hi with rfl | rfl
  ·exact .inl rfl
  ·exact .inr h.le.1
 ·obtain ⟨og, h1, h2⟩ := h.pn;exact ⟨og, h1.kept f (fun g hg hXg => by
   have := h2 g hg;have := h.le;rcases hX g hXg with e | e <;> omega), h2⟩
theorem Et.slr {w : World} {xb hb ab ob sb : Nat} {HC AC ZI : Array Value} {vP : Value} {P : List Pr} {q : Nat} {V : World} (h : Et w rb xb hb ab ob sb HC AC ZI vP P q V) : SlR RP (fun k => k = rb ∨ k = xb) vP P V := by
 obtain ⟨og, h1, h2⟩ := h.pn;refine (h1.slr rpOk).mono (fun g hg e => ?_);have := h2 g e;have := h.le;rcases hg with rfl | rfl <;> omega
theorem ge_of {w V : World} {X : Nat → Prop} (h : Fr X w V) : w.heap.size ≤ V.heap.size := h.size
theorem np_last {W1 V0 U : World} {v : Value} {P : List Pr} (o : Obj) (h : NewP V0 v P U) (h0 : W1.heap.size ≤ V0.heap.size) : ∃ og, OgR RP og v P (U.alloc o) ∧ ∀ k, og = some k → W1.heap.size ≤ k ∧ k ≠ U.heap.size := by
 obtain ⟨og, h1, h2⟩ := h;exact ⟨og, h1.nw ((Fr.refl _ _).alloc o), fun g hg => ⟨Nat.le_trans h0 (h2 g hg), by have := h1.lt g hg; omega⟩⟩
theorem np_first {W1 V0 U : World} {v : Value} {P : List Pr} (h : NewP V0 v P U) (h0 : W1.heap.size + 1 ≤ V0.heap.size) : ∃ og, OgR RP og v P U ∧ ∀ k, og = some k → W1.heap.size ≤ k ∧ k ≠ W1.heap.size := by
 obtain ⟨og, h1, h2⟩ := h;exact ⟨og, h1, fun g hg => ⟨by have := h2 g hg; omega, by have := h2 g hg; omega⟩⟩
def ziC : Array Value := #[.string ⟨#[]⟩, .int .i64 0, .int .u32 0, .int .u32 0, .int .u32 0, .int .i64 0, .int .i32 0, .string ⟨#[]⟩, .string ⟨#[]⟩, .string ⟨#[]⟩, .int .i64 0, .int .u8 0, .int .i64 0, .int .u8 0, .int .i64 0, .int .i64 0, .int .i64 0, .int .i64 0, .int .i64 0, .bool false, .slice none 0 0, .slice none 0 0]
theorem ziI : (Tryz.prog.info? 36).map (·.size) = some ziC.size := by
 have q1 : (Tryz.prog.info? 36).map (·.size) = some 22 := by kernel_rfl
 exact q1
theorem bdR_pairs {s : List By} {h : Hr} {P : List Pr} {x y : It} {l : List Rg} {w : Int} {o L : Nat} (hp : bdR s h P x l w o = .got y L) : y.pairs = x.pairs := by
 unfold bdR at hp
 repeat' split at hp
 all_goals first
  | (cases hp; done)
  | (injection hp with h1 h2; rw [← h1])
theorem boR_pairs {s : List By} {h : Hr} {P : List Pr} {x y : It} {z L : Nat} (hp : boR s h P x z = .got y L) : y.pairs = x.pairs := by
 unfold boR at hp
 repeat' split at hp
 all_goals first
  | (cases hp; done)
  | exact bdR_pairs hp
theorem nbP_lt (P : List Pr) (k : Bs) (n : Nat) (hn : n ≤ 9223372036854775807) : (nbP P k n).1 ≤ 9223372036854775807 := by
 unfold nbP;split
 ·have := numV_lt (by assumption); omega
 ·exact hn
theorem ksize_str : str kSize = ⟨#[115, 105, 122, 101]⟩ := by decide +kernel
theorem fr_setCells {w : World} (b : Nat) (vs : List Value) : ∀ (o : Nat) (V : World), Fr (fun k => k = b) w V → Fr (fun k => k = b) w (V.setCells b o vs) := by
 induction vs with
 | nil => intro o V h; exact h
 | cons v r ih => intro o V h; exact ih (o + 1) _ (h.setCell _ _ (.inl rfl))
theorem sc_row12 {w : World} {b T : Nat} {r0 r1 r2 r3 r4 r5 r6 r7 r8 r9 r10 r11 v0 v1 v2 v3 v4 v5 v6 v7 v8 v9 v10 v11 t0 t1 t2 t3 t4 t5 t6 t7 t8 t9 : Value} (h : w.heap[b]? = some (.cells #[r0, r1, r2, r3, r4, r5, r6, r7, r8, r9, r10, r11, t0, t1, t2, t3, t4, t5, t6, t7, t8, t9] T)) :
  (w.setCells b 0 [v0, v1, v2, v3, v4, v5, v6, v7, v8, v9, v10, v11]).heap[b]? = some (.cells #[v0, v1, v2, v3, v4, v5, v6, v7, v8, v9, v10, v11, t0, t1, t2, t3, t4, t5, t6, t7, t8, t9] T) := by
 have h0 : (w.setCell ⟨b, 0, none⟩ v0).heap[b]? = some (.cells #[v0, r1, r2, r3, r4, r5, r6, r7, r8, r9, r10, r11, t0, t1, t2, t3, t4, t5, t6, t7, t8, t9] T) := row_setN h 0 v0;have h1 : ((w.setCell ⟨b, 0, none⟩ v0).setCell ⟨b, 1, none⟩ v1).heap[b]? = some (.cells #[v0, v1, r2, r3, r4, r5, r6, r7, r8, r9, r10, r11, t0, t1, t2, t3, t4, t5, t6, t7, t8, t9] T) := row_setN h0 1 v1
 have h2 : (((w.setCell ⟨b, 0, none⟩ v0).setCell ⟨b, 1, none⟩ v1).setCell ⟨b, 2, none⟩ v2).heap[b]? = some (.cells #[v0, v1, v2, r3, r4, r5, r6, r7, r8, r9, r10, r11, t0, t1, t2, t3, t4, t5, t6, t7, t8, t9] T) := row_setN h1 2 v2;have h3 : ((((w.setCell ⟨b, 0, none⟩ v0).setCell ⟨b, 1, none⟩ v1).setCell ⟨b, 2, none⟩ v2).setCell ⟨b, 3, none⟩ v3).heap[b]? = some (.cells #[v0, v1, v2, v3, r4, r5, r6, r7, r8, r9, r10, r11, t0, t1, t2, t3, t4, t5, t6, t7, t8, t9] T) := row_setN h2 3 v3
 have h4 : (((((w.setCell ⟨b, 0, none⟩ v0).setCell ⟨b, 1, none⟩ v1).setCell ⟨b, 2, none⟩ v2).setCell ⟨b, 3, none⟩ v3).setCell ⟨b, 4, none⟩ v4).heap[b]? = some (.cells #[v0, v1, v2, v3, v4, r5, r6, r7, r8, r9, r10, r11, t0, t1, t2, t3, t4, t5, t6, t7, t8, t9] T) := row_setN h3 4 v4;have h5 : ((((((w.setCell ⟨b, 0, none⟩ v0).setCell ⟨b, 1, none⟩ v1).setCell ⟨b, 2, none⟩ v2).setCell ⟨b, 3, none⟩ v3).setCell ⟨b, 4, none⟩ v4).setCell ⟨b, 5, none⟩ v5).heap[b]? = some (.cells #[v0, v1, v2, v3, v4, v5, r6, r7, r8, r9, r10, r11, t0, t1, t2, t3, t4, t5, t6, t7, t8, t9] T) := row_setN h4 5 v5
 have h6 : (((((((w.setCell ⟨b, 0, none⟩ v0).setCell ⟨b, 1, none⟩ v1).setCell ⟨b, 2, none⟩ v2).setCell ⟨b, 3, none⟩ v3).setCell ⟨b, 4, none⟩ v4).setCell ⟨b, 5, none⟩ v5).setCell ⟨b, 6, none⟩ v6).heap[b]? = some (.cells #[v0, v1, v2, v3, v4, v5, v6, r7, r8, r9, r10, r11, t0, t1, t2, t3, t4, t5, t6, t7, t8, t9] T) := row_setN h5 6 v6
 have h7 : ((((((((w.setCell ⟨b, 0, none⟩ v0).setCell ⟨b, 1, none⟩ v1).setCell ⟨b, 2, none⟩ v2).setCell ⟨b, 3, none⟩ v3).setCell ⟨b, 4, none⟩ v4).setCell ⟨b, 5, none⟩ v5).setCell ⟨b, 6, none⟩ v6).setCell ⟨b, 7, none⟩ v7).heap[b]? = some (.cells #[v0, v1, v2, v3, v4, v5, v6, v7, r8, r9, r10, r11, t0, t1, t2, t3, t4, t5, t6, t7, t8, t9] T) := row_setN h6 7 v7
 have h8 : (((((((((w.setCell ⟨b, 0, none⟩ v0).setCell ⟨b, 1, none⟩ v1).setCell ⟨b, 2, none⟩ v2).setCell ⟨b, 3, none⟩ v3).setCell ⟨b, 4, none⟩ v4).setCell ⟨b, 5, none⟩ v5).setCell ⟨b, 6, none⟩ v6).setCell ⟨b, 7, none⟩ v7).setCell ⟨b, 8, none⟩ v8).heap[b]? = some (.cells #[v0, v1, v2, v3, v4, v5, v6, v7, v8, r9, r10, r11, t0, t1, t2, t3, t4, t5, t6, t7, t8, t9] T) := row_setN h7 8 v8
 have h9 : ((((((((((w.setCell ⟨b, 0, none⟩ v0).setCell ⟨b, 1, none⟩ v1).setCell ⟨b, 2, none⟩ v2).setCell ⟨b, 3, none⟩ v3).setCell ⟨b, 4, none⟩ v4).setCell ⟨b, 5, none⟩ v5).setCell ⟨b, 6, none⟩ v6).setCell ⟨b, 7, none⟩ v7).setCell ⟨b, 8, none⟩ v8).setCell ⟨b, 9, none⟩ v9).heap[b]? = some (.cells #[v0, v1, v2, v3, v4, v5, v6, v7, v8, v9, r10, r11, t0, t1, t2, t3, t4, t5, t6, t7, t8, t9] T) := row_setN h8 9 v9
 have h10 : (((((((((((w.setCell ⟨b, 0, none⟩ v0).setCell ⟨b, 1, none⟩ v1).setCell ⟨b, 2, none⟩ v2).setCell ⟨b, 3, none⟩ v3).setCell ⟨b, 4, none⟩ v4).setCell ⟨b, 5, none⟩ v5).setCell ⟨b, 6, none⟩ v6).setCell ⟨b, 7, none⟩ v7).setCell ⟨b, 8, none⟩ v8).setCell ⟨b, 9, none⟩ v9).setCell ⟨b, 10, none⟩ v10).heap[b]? = some (.cells #[v0, v1, v2, v3, v4, v5, v6, v7, v8, v9, v10, r11, t0, t1, t2, t3, t4, t5, t6, t7, t8, t9] T) := row_setN h9 10 v10
 have h11 : ((((((((((((w.setCell ⟨b, 0, none⟩ v0).setCell ⟨b, 1, none⟩ v1).setCell ⟨b, 2, none⟩ v2).setCell ⟨b, 3, none⟩ v3).setCell ⟨b, 4, none⟩ v4).setCell ⟨b, 5, none⟩ v5).setCell ⟨b, 6, none⟩ v6).setCell ⟨b, 7, none⟩ v7).setCell ⟨b, 8, none⟩ v8).setCell ⟨b, 9, none⟩ v9).setCell ⟨b, 10, none⟩ v10).setCell ⟨b, 11, none⟩ v11).heap[b]? = some (.cells #[v0, v1, v2, v3, v4, v5, v6, v7, v8, v9, v10, v11, t0, t1, t2, t3, t4, t5, t6, t7, t8, t9] T) := row_setN h10 11 v11;exact h11
theorem there_row {w : World} {b T : Nat} {C : Array Value} (h : w.heap[b]? = some (.cells C T)) (n : Nat) (hn : n ≤ C.size) : w.there b 0 n := fun j hj => by
 rw [Nat.zero_add];refine ⟨?_, frz_of h j⟩;rw [cell_of h j C[j] (Array.getElem?_eq_getElem (by omega))];rfl
theorem og_item {α : Type} {R : RT α} {og : Option Nat} {v : Value} {l : List α} {V : World} {ob : Nat} {C : Array Value} (h : OgR R og v l V) (hT : R.T ≠ 36) (ho : V.heap[ob]? = some (.cells C 36)) : ∀ g, og = some g → ¬ g = ob := by
 intro g hg he;subst hg he;obtain ⟨xs, _, _, _, _, hs⟩ := h;have hs' : V.heap[g]? = some (.cells (flatR R xs).toArray R.T) := hs;rw [ho] at hs';injection hs' with hs';injection hs' with _ e;exact hT e.symm
theorem MpN.item {w V U : World} {v : Value} {l : List Rg} (h : MpN w v l V) {X : Nat → Prop} (f : Fr X V U) {xb : Nat} (hx : ∀ k, X k → k = xb) {C : Array Value} (hi : V.heap[xb]? = some (.cells C 36)) : MpN w v l U := by
 obtain ⟨h1, og, h2, h3⟩ := h;exact ⟨h1, og, h2.kept f (fun g hg hX => og_item h2 (by decide) hi g hg (hx g hX)), h3⟩
theorem MpN.base {w V U : World} {v : Value} {l : List Rg} (h : MpN V v l U) (hw : w.heap.size ≤ V.heap.size) : MpN w v l U := by
 obtain ⟨h1, og, h2, h3⟩ := h;exact ⟨h1, og, h2, fun g hg => Nat.le_trans hw (h3 g hg)⟩
def niC (h : Hr) (f q : Nat) (z : Nat) (vP : Value) : Array Value := #[.string ⟨#[]⟩, .int .i64 0, .int .u32 0, .int .u32 0, .int .u32 0, .int .i64 0, .int .i32 0, .string ⟨#[]⟩, .string ⟨#[]⟩, .string ⟨#[]⟩, .int .i64 0, .int .u8 0, .int .i64 h.form, .int .u8 h.typ.toNat, .int .i64 (f : Nat), .int .i64 (q : Nat), .int .i64 0, .int .i64 0, .int .i64 (z : Nat), .bool false, .slice none 0 0, vP]
theorem qentry_any {X : Nat → Prop} (w : World) (q : Nat) (hq : q + 512 ≤ b.length) (h : Hr) (hr : RL rb va vc b q vG G w) (A : Ah) (th : Bool) (fr : Nat) (vL : Value) (hL : SlR RP X vL A.loc w) (hGl : G.length ≤ 1024) (hAl : A.loc.length ≤ 1024) (hky : KyB (G ++ A.loc)) (hvl : VlB (hdP G A)) (hu : 0 ≤ h.uid ∧ h.uid ≤ 9223372036854775807) (hg : 0 ≤ h.gid ∧ h.gid ≤ 9223372036854775807) (hz : 0 ≤ h.size ∧ h.size ≤ 9223372036854775807)
  (hnm : h.pfx.size + 1 + h.name.size ≤ 140737488351232) (hNM : (txP14 (hdP G A) kPath (A.name.getD (nmF h))).size ≤ 140737488351232) (B : Nat) (hE : EnvB B w) (hB : B ≤ w.heap.size ∧ B ≤ rb) :
  Calls Tryz.prog 37 #[.pointer (some ⟨rb, 0, none⟩), .agg (hdC h (fd b q 512) q), .agg (ahC th fr vL A)] w (EnA rb va vc b vG G q (if th = true then fr else q) (enR (b.drop q) h G A) w) := by
 refine asP fun Q hQ => ?_
 rw [enR_eq] at hQ;obtain ⟨F, hF⟩ : ∃ F, F = if th = true then fr else q := ⟨_, rfl⟩
 rw [← hF] at hQ;have HFF := tHid hF;clear hF;have hPl := hdP_len hGl hAl;obtain ⟨P, hP⟩ : ∃ P, P = hdP G A := ⟨_, rfl⟩;rw [← hP] at hQ hPl hvl hNM;obtain ⟨aL, cL, rfl⟩ := ps_form hL;obtain ⟨HC, hHC⟩ : ∃ HC, HC = hdC h (fd b q 512) q := ⟨_, rfl⟩;obtain ⟨AC, hAC⟩ : ∃ AC, AC = ahC th fr (.slice aL A.loc.length cL) A := ⟨_, rfl⟩;obtain ⟨CHh, hCHh⟩ : ∃ CHh : List Value, CHh = h.C.toList := ⟨_, rfl⟩;have hCA : h.C = CHh.toArray := by rw [hCHh]
 obtain ⟨hb, hhb⟩ : ∃ hb, w.heap.size = hb := ⟨_, rfl⟩;obtain ⟨ab, hab⟩ : ∃ ab, hb + 1 = ab := ⟨_, rfl⟩;obtain ⟨ob, hob⟩ : ∃ ob, ab + 1 = ob := ⟨_, rfl⟩;obtain ⟨W1, hW1⟩ : ∃ W1, ((w.alloc (.cells HC 89)).alloc (.cells AC 85)).alloc (.cells ziC 36) = W1 := ⟨_, rfl⟩;have s1 : (w.alloc (.cells HC 89)).heap.size = hb + 1 := by rw [← hhb]; simp
 have s2 : ((w.alloc (.cells HC 89)).alloc (.cells AC 85)).heap.size = ab + 1 := by rw [← hab, ← s1]; simp
 have s3 : W1.heap.size = ob + 1 := by rw [← hob, ← hW1, ← s2]; simp
 have n0 : Nw w W1 := by rw [← hW1]; exact (((Fr.refl _ _).alloc _).alloc _).alloc _
 have r1 : W1.heap[hb]? = some (.cells HC 89) := by rw [← hW1, ← hhb]; exact Nw.heap (((Fr.refl _ _).alloc _).alloc _) (newHeap _ _)
 have r2 : W1.heap[ab]? = some (.cells AC 85) := by rw [← hW1, ← hab, ← s1]; exact Nw.heap ((Fr.refl _ _).alloc _) (newHeap _ _)
 have r3 : W1.heap[ob]? = some (.cells ziC 36) := by rw [← hW1, ← hob, ← s2]; exact newHeap _ _
 have HCL : Hid (∀ j v, h.C[j]? = some v → HC[j]? = some v) := fun j v hv => by rw [hHC]; exact hdC_lo h _ q j v hv
 have HC5 : Hid (HC[526]? = some (.int .i64 (q : Nat))) := by show _ = _; rw [hHC]; exact hdC_at h _ (fd_length b q 512 hq) q
 have KEY : Hid (∀ U, Nw W1 U → (U.cell? ⟨ab, 2, none⟩ = some (.slice aL A.loc.length cL) ∧ U.cell? ⟨hb, 526, none⟩ = some (.int .i64 (q : Nat))) ∧ Nw W1 U) := fun U hU => by
  have e2 := Nw.heap hU r2;rw [hAC] at e2;exact ⟨⟨cell_of e2 2 _ rfl, cell_of (Nw.heap hU r1) 526 _ HC5.out⟩, hU⟩
 have HHO : Hid (∀ V, Nw W1 V → Calls Tryz.prog 53 #[.pointer (some ⟨rb, 0, none⟩), .slice aL A.loc.length cL] V fun e w' => ∃ aP cP, e = .returned (.slice aP P.length cP) ∧ Hid (Nw V w' ∧ NewP V (.slice aP P.length cP) P w')) := fun V hV => by
  refine (qholding_any (hr.nw (n0.trans hV)) hGl _ A (hL.nw (n0.trans hV)) hAl hky).mono ?_;rintro e w' ⟨v, rfl, H⟩;obtain ⟨H1, og, H2, H3⟩ := H.out;rw [← hP] at H2;obtain ⟨aP, cP, ev, _⟩ := H2.form;subst ev;exact ⟨aP, cP, rfl, H1, og, H2, H3⟩
 have HSI : Hid ((Tryz.prog.info? 121).map (·.size) = some 2) := by show _ = _; kernel_rfl
 have HS1 : Hid (∀ (aP : Option Addr) (nP cP : Nat), (#[.slice aP nP cP, .int .i64 (q : Nat)] : Array Value).all (·.oneCell') = true) := fun aP nP cP => by simp [Value.oneCell']
 have HFI : Hid (∀ V g v, Nw W1 V → V.heap[g]? = some (.cells #[.slice none 0 0, .int .i64 0] 121) → W1.heap.size ≤ g → (∃ og, OgR RP og v P V ∧ ∀ k, og = some k → W1.heap.size ≤ k ∧ k ≠ g) → (V.setRow g #[v, .int .i64 (q : Nat)]).heap[g]? = some (.cells #[v, .int .i64 (q : Nat)] 121) ∧ Nw W1 (V.setRow g #[v, .int .i64 (q : Nat)]) ∧ W1.heap.size ≤ g ∧ ∃ og, OgR RP og v P (V.setRow g #[v, .int .i64 (q : Nat)]) ∧ ∀ k, og = some k → W1.heap.size ≤ k) := fun V g v hV hr' hg' hp => by
  obtain ⟨og, h1, h2⟩ := hp;exact ⟨setRow_heap _ _ _ _ 121 _ hr', hV.setRow g _ (.inr hg'), hg', og, h1.kept ((Fr.refl _ _).setRow g _ (.inl rfl) : Fr (fun k => k = g) V _) (fun k hk => (h2 k hk).2), fun k hk => (h2 k hk).1⟩
 have HN := tHid n0;have HS3 := tHid s3;have HR1 := tHid r1;have HR2 := tHid r2;have HR3 := tHid r3;have HW1 := tHid hW1;rw [← hHC, ← hAC];have HHC := tHid hHC;have HAC := tHid hAC;have HCA := tHid hCA;have HQL := tHid hq;clear s1 s2 s3 r1 r2 r3 n0 hW1 hHC hAC hCA hCHh hP hq;go_enter Tryz.func37, Tryz.ntmps37;go_upto_region 1 with fail;unfold ziC at HW1;rw [HW1.out]
 go_cut [7, 14, 17] (fun v7 v14 v17 wy => ∃ g aP cP wx, v7 = .pointer (some ⟨g, 0, none⟩) ∧ v14 = .slice aP P.length cP ∧ v17 = .agg #[.slice aP P.length cP, .int .i64 (q : Nat)] ∧ wy = wx ∧ Hid (wx.heap[g]? = some (.cells #[.slice aP P.length cP, .int .i64 (q : Nat)] 121) ∧ Nw W1 wx ∧ W1.heap.size ≤ g ∧ ∃ og, OgR RP og (.slice aP P.length cP) P wx ∧ ∀ k, og = some k → W1.heap.size ≤ k))
 case first =>
  have k0 : Nw W1 W1.drew := (Fr.refl _ _).drew;refine wp_region_held_drew (S := fun U => (U.cell? ⟨ab, 2, none⟩ = some (.slice aL A.loc.length cL) ∧ U.cell? ⟨hb, 526, none⟩ = some (.int .i64 (q : Nat))) ∧ Nw W1 U) (by kernel_rfl) (KEY.out _ k0) (fun hHeld => ?_);refine tkH (i := 0) (oi := ⟨some 11, .move (.tmp 0), 42, "entry.go:16", #[], none⟩) (v := ?_) rfl ?_ ?_;rotate_left
  ·intro U hSw; obtain ⟨⟨s0, s1⟩, _⟩ := hSw; (go_simp <;> with_reducible rfl)
  try simp only [Act.put, nz1, nz2, nz3]
  refine tkH (i := 1) (oi := ⟨some 12, .fieldAddr 85 (.tmp 5) 2, 0, "entry.go:16", #[], none⟩) (v := ?_) rfl ?_ ?_;rotate_left
  ·intro U hSw; obtain ⟨⟨s0, s1⟩, _⟩ := hSw; (go_simp <;> with_reducible rfl)
  try simp only [Act.put, nz1, nz2, nz3]
  refine tkH (i := 2) (oi := ⟨some 13, .load 34 (.tmp 12), 34, "entry.go:16", #[⟨1, .data⟩], none⟩) (v := ?_) rfl ?_ ?_;rotate_left
  ·intro U hSw; obtain ⟨⟨s0, s1⟩, _⟩ := hSw; (go_simp <;> with_reducible rfl)
  try simp only [Act.put, nz1, nz2, nz3]
  refine tkH (i := 4) (oi := ⟨some 15, .fieldAddr 89 (.tmp 4) 2, 0, "entry.go:16", #[], none⟩) (v := ?_) rfl ?_ ?_;rotate_left
  ·intro U hSw; obtain ⟨⟨s0, s1⟩, _⟩ := hSw; (go_simp <;> with_reducible rfl)
  try simp only [Act.put, nz1, nz2, nz3]
  refine tkH (i := 5) (oi := ⟨some 16, .load 3 (.tmp 15), 3, "entry.go:16", #[⟨4, .data⟩], none⟩) (v := ?_) rfl ?_ ?_;rotate_left
  ·intro U hSw; obtain ⟨⟨s0, s1⟩, _⟩ := hSw; (go_simp <;> with_reducible rfl)
  try simp only [Act.put, nz1, nz2, nz3]
  refine wpAnyH_ready (rs := [3, 7]) (by kernel_rfl) (by simp) ?_;refine AllReadyH.cons (o := ⟨some 14, .call ⟨.value (.func 53), #[.tmp 11, .tmp 13], #[42, 34]⟩, 34, "entry.go:16", #[⟨0, .data⟩, ⟨2, .data⟩], none⟩) rfl (fun K hK => ?_) (AllReadyH.cons (o := ⟨some 7, .alloc 121, 0, "entry.go:16", #[], none⟩) rfl (fun K hK => ?_) AllReadyH.nil)
  ·(
   go_simp;go_at_call 53; (with_reducible refine (HHO.out _ k0).mono ?_); rintro e w2 ⟨aP, cP, rfl, k2⟩
   (try go_wp2_with fail)
   have k2N := (k0).trans k2.out.1;refine hK.out _ _ (KEY.out _ k2N) (fun _ => ?_);clear hK K;try simp only [Act.put, nz1, nz2, nz3]
   refine tkH (i := 6) (oi := ⟨some 17, .build 121 #[(0, .tmp 14), (1, .tmp 16)], 121, "entry.go:16", #[⟨3, .data⟩, ⟨5, .data⟩], none⟩) (v := ?_) rfl ?_ ?_;rotate_left
   ·intro U hSw; obtain ⟨⟨s0, s1⟩, _⟩ := hSw; (go_simp <;> with_reducible rfl)
   try simp only [Act.put, nz1, nz2, nz3]
   refine wpAnyH_ready (rs := [7]) (by kernel_rfl) (by simp) ?_;refine AllReadyH.cons (o := ⟨some 7, .alloc 121, 0, "entry.go:16", #[], none⟩) rfl (fun K hK => ?_) AllReadyH.nil;rw [if_pos (by rfl)];go_simp;have k3N := k2N.trans ((Fr.refl (fun _ => False) _).alloc (.cells #[.slice none 0 0, .int .i64 0] 121));have k3R := alR k3N;refine hK.out _ _ (KEY.out _ k3N) (fun _ => ?_);clear hK K;try simp only [Act.put, nz1, nz2, nz3]
   refine wpAnyH_ready (rs := [8]) (by kernel_rfl) (by simp) ?_;refine AllReadyH.cons (o := ⟨none, .store 121 (.tmp 7) (.tmp 17), 0, "entry.go:16", #[⟨7, .data⟩, ⟨6, .data⟩, ⟨3, .chain⟩, ⟨0, .phase⟩, ⟨1, .phase⟩, ⟨2, .phase⟩, ⟨3, .phase⟩, ⟨4, .phase⟩, ⟨5, .phase⟩, ⟨6, .phase⟩, ⟨7, .phase⟩], none⟩) rfl (fun K hK => ?_) AllReadyH.nil;rw [if_pos (by rfl)];refine wp_store_row 121 _ _ rfl _ #[.slice aP P.length cP, .int .i64 (q : Nat)] (by first | rfl | simp [Act.eval]) (by first | rfl | simp [Act.eval]) 121 _ k3R HSI.out rfl (HS1.out _ _ _) ?_
   obtain ⟨FR, FN, FG, FP⟩ := HFI.out _ _ (.slice aP P.length cP) k3N k3R (Fr.size k2N) (np_last _ k2.out.2 (Fr.size k0));refine hK.out _ _ (KEY.out _ FN) (fun _ => ?_);clear hK K;refine wpAnyH_done (by kernel_rfl) ?_ _
   go_wp2_with fail
   go_meet
   exact ⟨_, aP, cP, _, rfl, rfl, rfl, rfl, FR, FN, FG, FP⟩
   )
  ·(
   rw [if_pos (by rfl)];go_simp;have k1N : Nw W1 (W1.alloc (.cells #[.slice none 0 0, .int .i64 0] 121)).drew := ((Fr.refl (fun _ => False) W1).alloc (.cells #[.slice none 0 0, .int .i64 0] 121)).drew;have k1R : ((W1.alloc (.cells #[.slice none 0 0, .int .i64 0] 121)).drew).heap[W1.heap.size]? = some (.cells #[.slice none 0 0, .int .i64 0] 121) := newHeap W1 _;refine hK.out _ _ (KEY.out _ k1N) (fun _ => ?_);clear hK K;try simp only [Act.put, nz1, nz2, nz3]
   refine wpAnyH_ready (rs := [3]) (by kernel_rfl) (by simp) ?_;refine AllReadyH.cons (o := ⟨some 14, .call ⟨.value (.func 53), #[.tmp 11, .tmp 13], #[42, 34]⟩, 34, "entry.go:16", #[⟨0, .data⟩, ⟨2, .data⟩], none⟩) rfl (fun K hK => ?_) AllReadyH.nil;go_simp;go_at_call 53; (with_reducible refine (HHO.out _ k1N).mono ?_); rintro e w2 ⟨aP, cP, rfl, k2⟩
   (try go_wp2_with fail)
   have k2N := (k1N).trans k2.out.1;have k2R := Nw.heap k2.out.1 k1R;refine hK.out _ _ (KEY.out _ k2N) (fun _ => ?_);clear hK K;try simp only [Act.put, nz1, nz2, nz3]
   refine tkH (i := 6) (oi := ⟨some 17, .build 121 #[(0, .tmp 14), (1, .tmp 16)], 121, "entry.go:16", #[⟨3, .data⟩, ⟨5, .data⟩], none⟩) (v := ?_) rfl ?_ ?_;rotate_left
   ·intro U hSw; obtain ⟨⟨s0, s1⟩, _⟩ := hSw; (go_simp <;> with_reducible rfl)
   try simp only [Act.put, nz1, nz2, nz3]
   refine wpAnyH_ready (rs := [8]) (by kernel_rfl) (by simp) ?_;refine AllReadyH.cons (o := ⟨none, .store 121 (.tmp 7) (.tmp 17), 0, "entry.go:16", #[⟨7, .data⟩, ⟨6, .data⟩, ⟨3, .chain⟩, ⟨0, .phase⟩, ⟨1, .phase⟩, ⟨2, .phase⟩, ⟨3, .phase⟩, ⟨4, .phase⟩, ⟨5, .phase⟩, ⟨6, .phase⟩, ⟨7, .phase⟩], none⟩) rfl (fun K hK => ?_) AllReadyH.nil;rw [if_pos (by rfl)];refine wp_store_row 121 _ _ rfl _ #[.slice aP P.length cP, .int .i64 (q : Nat)] (by first | rfl | simp [Act.eval]) (by first | rfl | simp [Act.eval]) 121 _ k2R HSI.out rfl (HS1.out _ _ _) ?_
   obtain ⟨FR, FN, FG, FP⟩ := HFI.out _ _ (.slice aP P.length cP) k2N k2R (Nat.le_refl _) (np_first k2.out.2 (by simp));refine hK.out _ _ (KEY.out _ FN) (fun _ => ?_);clear hK K;refine wpAnyH_done (by kernel_rfl) ?_ _
   go_wp2_with fail
   go_meet
   exact ⟨_, aP, cP, _, rfl, rfl, rfl, rfl, FR, FN, FG, FP⟩
   )
 case rest =>
 obtain ⟨sb, aP, cP, wx, rfl, rfl, rfl, hwx, HG⟩ := hcut;have hwx' := hwx.symm;subst hwx';clear hwx KEY HHO HFI HSI HS1;obtain ⟨g1, g2, g3, og, g4, g5⟩ := HG.out;clear HG;obtain ⟨xb, hxb⟩ : ∃ xb, wx.heap.size = xb := ⟨_, rfl⟩;obtain ⟨W3, e3⟩ : ∃ W3, (wx.alloc (.cells ziC 36)).setRow wx.heap.size (niC h q q 0 (.slice aP P.length cP)) = W3 := ⟨_, rfl⟩;have g6 : Nw wx W3 := by rw [← e3]; exact ((Fr.refl _ _).alloc _).setRow _ _ (.inr (Nat.le_refl _))
 have g7 : W3.heap[xb]? = some (.cells (niC h q q 0 (.slice aP P.length cP)) 36) := by rw [← e3, ← hxb]; exact setRow_heap _ _ _ _ 36 _ (newHeap _ _)
 have l1 := ge_of HN.out;have l2 := ge_of g2;have l3 := Rm.lt hr;have l4 : hb < W1.heap.size := (Array.getElem?_eq_some_iff.1 HR1.out).1;have l5 : ab < W1.heap.size := (Array.getElem?_eq_some_iff.1 HR2.out).1;have l6 : ob < W1.heap.size := (Array.getElem?_eq_some_iff.1 HR3.out).1;have l7 : sb < wx.heap.size := (Array.getElem?_eq_some_iff.1 g1).1;have HS3' := HS3.out;have ET3' : Et w rb xb hb ab ob sb HC AC ziC (.slice aP P.length cP) P q W3 := by
  refine ⟨((HN.out.trans g2).trans g6).any, Nw.heap g6 (Nw.heap g2 HR1.out), Nw.heap g6 (Nw.heap g2 HR2.out), Nw.heap g6 (Nw.heap g2 HR3.out), Nw.heap g6 g1, ⟨og, g4.nw g6, fun g hg => ⟨by have := g5 g hg; omega, by have := g4.lt g hg; omega⟩⟩, ⟨⟨by omega, by omega, by omega, by omega⟩, by omega, by omega, by omega, by omega⟩, by omega, l3⟩
 have RM3 := tHid (Rm.nw hr ((HN.out.trans g2).trans g6));have ET3 := tHid ET3';have IT3 := tHid g7;have E3 := tHid e3;have HXB : Hid (wx.heap.size = xb) := hxb;have b0 : wx.cell? ⟨hb, 0, none⟩ = some (.int .i64 h.form) := cell_of (Nw.heap g2 HR1.out) 0 _ (HCL.out 0 _ rfl);have b8 : wx.cell? ⟨hb, 8, none⟩ = some (.int .u8 h.typ.toNat) := cell_of (Nw.heap g2 HR1.out) 8 _ (HCL.out 8 _ rfl);have b5 : wx.cell? ⟨hb, 526, none⟩ = some (.int .i64 (q : Nat)) := cell_of (Nw.heap g2 HR1.out) 526 _ HC5.out;have bs : wx.cell? ⟨sb, 0, none⟩ = some (.slice aP P.length cP) := cell_of g1 0 _ rfl
 obtain ⟨zn, hzn⟩ : ∃ zn : Nat, zn = h.size.toNat := ⟨_, rfl⟩;have ezn : h.size = (zn : Int) := by omega
 have hznl : zn ≤ 9223372036854775807 := by omega
 rw [← hzn] at hQ;obtain ⟨NB, hNB⟩ : ∃ NB, NB = nbP P kSize zn := ⟨_, rfl⟩;rw [← hNB] at hQ;have hNBl : NB.1 ≤ 9223372036854775807 := by rw [hNB]; exact nbP_lt P kSize zn hznl
 have HEV : ∀ V, Et w rb xb hb ab ob sb HC AC ziC (.slice aP P.length cP) P q V → EnvB B V := fun V hV => hE.fr hV.fr hB.1 (fun k hk => by rw [hk]; exact hB.2)
 have HNUM : Hid (∀ V, Et w rb xb hb ab ob sb HC AC ziC (.slice aP P.length cP) P q V → Calls Tryz.prog 54 #[.agg #[.slice aP P.length cP, .int .i64 (q : Nat)], .string ⟨#[115, 105, 122, 101]⟩, .int .i64 (zn : Nat)] V (NbA NB q V)) := fun V hV => by
  rw [hNB, ← ksize_str];exact qsnumber_any _ P q kSize zn V hV.slr (by omega) hvl (HEV V hV).env
 have HSE : Hid (∀ V, Et w rb xb hb ab ob sb HC AC ziC (.slice aP P.length cP) P q V → Calls Tryz.prog 56 #[.agg #[.slice aP P.length cP, .int .i64 (q : Nat)], .agg CHh.toArray, .agg AC] V (EsA h P A q V)) := fun V hV => by
  rw [← HCA.out, HAC.out];exact qsentry_any _ P q h A th fr _ hu hg hnm hNM V hV.slr (by omega) hvl (HEV V hV).env
 have HHD : Hid (∀ V, Calls Tryz.prog 55 #[.int .u8 h.typ.toNat] V fun e w' => e = .returned (.bool (hasD h.typ)) ∧ V = w') := fun V => (qhasData_any h.typ V).mono (fun e w' ⟨e1, e2⟩ => ⟨e1, e2.symm⟩)
 have HBO : Hid (∀ V x f z, Et w rb xb hb ab ob sb HC AC ziC (.slice aP P.length cP) P q V → Rm (fun k => k = rb ∨ w.heap.size ≤ k) rb va vc b (q + 512) vG G V → V.heap[xb]? = some (.cells (icC x 0 f q 0 0 (.slice none 0 0) (.slice aP P.length cP)) 36) → x.sparse = false → x.map = [] → x.held ≤ 9223372036854775807 → Calls Tryz.prog 57 #[.pointer (some ⟨rb, 0, none⟩), .pointer (some ⟨xb, 0, none⟩), .agg HC, .agg #[.slice aP P.length cP, .int .i64 (q : Nat)], .int .i64 (z : Nat)] V (BoA (fun k => k = rb ∨ w.heap.size ≤ k) rb va vc b vG G xb q f (.slice aP P.length cP) (boR (b.drop q) h P x z) V)) := fun V x f z hV hR hI h1 h2 h3 => by
  rw [HHC.out];exact qbody_any V q HQL.out h hR _ P hV.slr (by omega) xb f z (fun k hk => hk) x h1 h3 h2 hI (by have := hV.le; omega) (.inr hV.le.1) hvl B (HEV V hV) ⟨by have := ge_of hV.fr; omega, hB.2, by have := hV.le; omega⟩
 obtain ⟨xo, hxo⟩ : ∃ xo : It, xo = itR h P A NB.1 (idP P kUid h.uid.toNat).1 (idP P kGid h.gid.toNat).1 (tmP P h.time) := ⟨_, rfl⟩;rw [← hxo] at hQ;obtain ⟨OB, hOB⟩ : ∃ OB, OB = boR (b.drop q) h P xo NB.1 := ⟨_, rfl⟩;rw [← hOB] at hQ;have HENC : Hid (enC (itR h P A 0 (idP P kUid h.uid.toNat).1 (idP P kGid h.gid.toNat).1 (tmP P h.time)) 0 = enC xo 0) := by show _ = _; rw [hxo]; rfl
 have HIC : Hid (∀ f, icC xo 0 f q 0 0 (.slice none 0 0) (.slice aP P.length cP) = (enC xo 0) ++ #[.int .i64 h.form, .int .u8 h.typ.toNat, .int .i64 (f : Nat), .int .i64 (q : Nat), .int .i64 0, .int .i64 0, .int .i64 ((if hasD h.typ = true then NB.1 else 0 : Nat) : Int), .bool false, .slice none 0 0, .slice aP P.length cP]) := fun f => by rw [hxo]; rfl
 have HXO : Hid (xo.sparse = false ∧ xo.map = [] ∧ xo.held ≤ 9223372036854775807 ∧ xo.pairs = P) := by
  show _ ∧ _;rw [hxo];refine ⟨rfl, rfl, ?_, rfl⟩;show (if hasD h.typ = true then NB.1 else 0) ≤ _;split
  ·exact hNBl
  ·omega
 have HOBP : Hid (∀ y L, OB = .got y L → y.pairs = P) := fun y L e => by
  rw [hOB] at e;rw [boR_pairs e];exact HXO.out.2.2.2
 have HBO2 : Hid (∀ V f, Et w rb xb hb ab ob sb HC AC ziC (.slice aP P.length cP) P q V → Rm (fun k => k = rb ∨ w.heap.size ≤ k) rb va vc b (q + 512) vG G V → V.heap[xb]? = some (.cells (icC xo 0 f q 0 0 (.slice none 0 0) (.slice aP P.length cP)) 36) → Calls Tryz.prog 57 #[.pointer (some ⟨rb, 0, none⟩), .pointer (some ⟨xb, 0, none⟩), .agg HC, .agg #[.slice aP P.length cP, .int .i64 (q : Nat)], .int .i64 (NB.1 : Nat)] V (BoA (fun k => k = rb ∨ w.heap.size ≤ k) rb va vc b vG G xb q f (.slice aP P.length cP) OB V)) := fun V f h1 h2 h3 => by
  rw [hOB];exact HBO.out V xo f NB.1 h1 h2 h3 HXO.out.1 HXO.out.2.1 HXO.out.2.2.1
 have HOBW : Hid (w.heap.size ≤ ob) := by show _ ≤ _; omega
 have HOBN : Hid (∀ V og, Et w rb xb hb ab ob sb HC AC ziC (.slice aP P.length cP) P q V → OgR RP og (.slice aP P.length cP) P V → (∀ g, og = some g → w.heap.size ≤ g ∧ g ≠ xb) → ∀ g, og = some g → ¬ g = ob) := fun V og h1 h2 h3 => og_item h2 (by decide) h1.ou
 have HOBM : Hid (∀ V om l aM nM cM, Et w rb xb hb ab ob sb HC AC ziC (.slice aP P.length cP) P q V → OgR RG om (.slice aM nM cM) l V → (∀ g, om = some g → w.heap.size ≤ g) → ∀ g, om = some g → ¬ g = ob) := fun V om l aM nM cM h1 h2 h3 => og_item h2 (by decide) h1.ou
 have HQ := tHid hQ;have HCHI : Hid ((Tryz.prog.info? 62).map (·.size) = some CHh.length) := by
  show _ = _;have e : CHh.toArray.size = 14 := by rw [← HCA.out]; rfl
  have e2 : CHh.length = 14 := by simpa using e
  rw [e2];have q1 : (Tryz.prog.info? 62).map (·.size) = some 14 := by kernel_rfl
  exact q1
 have HRG : Hid (∀ V : World, V.heap[hb]? = some (.cells HC 89) → V.rangeAt hb 0 CHh) := fun V hV j v hv => by
  rw [Nat.zero_add];refine cell_of hV j v (HCL.out j v ?_);rw [HCA.out]; simpa using hv
 have HHI : Hid ((Tryz.prog.info? 89).map (·.size) = some HC.size) := by
  show _ = _;rw [HHC.out]; exact hd_info h _ (fd_length b q 512 HQL.out) q
 have HAI : Hid ((Tryz.prog.info? 85).map (·.size) = some AC.size) := by
  show _ = _;have q1 : (Tryz.prog.info? 85).map (·.size) = some 7 := by kernel_rfl
  rw [HAC.out]; exact q1
 have HA0 : Hid (∀ V : World, V.heap[ab]? = some (.cells AC 85) → V.cell? ⟨ab, 0, none⟩ = some (.bool th) ∧ V.cell? ⟨ab, 1, none⟩ = some (.int .i64 (fr : Nat))) := fun V hV => by
  rw [HAC.out] at hV;exact ⟨cell_of hV 0 _ rfl, cell_of hV 1 _ rfl⟩
 have HH6 : Hid (∀ V : World, V.heap[hb]? = some (.cells HC 89) → V.cell? ⟨hb, 6, none⟩ = some (.int .i64 (zn : Nat)) ∧ V.cell? ⟨hb, 8, none⟩ = some (.int .u8 h.typ.toNat)) := fun V hV => ⟨cell_of hV 6 _ (HCL.out 6 _ (by rw [← ezn]; rfl)), cell_of hV 8 _ (HCL.out 8 _ rfl)⟩
 have HZI : Hid (∀ V : World, V.heap[ob]? = some (.cells ziC 36) → V.heap[ob]? = some (.cells ziC 36)) := fun V hV => hV
 have HNO : Hid ((niC h q q 0 (.slice aP P.length cP)).all (·.oneCell') = true) := by show _ = _; simp [niC, Value.oneCell']
 have HNI : Hid ((Tryz.prog.info? 36).map (·.size) = some (niC h q q 0 (.slice aP P.length cP)).size) := ziI;have HZL := tHid hNBl;unfold ziC at E3;clear g1 g2 g3 g4 g5 g6 g7 l1 l2 l3 l4 l5 l6 l7 HS3' hr hL hky hvl hNM hNBl hznl hzn hNB hxo hOB hQ e3 hE HEV HBO HR1 HR2 HR3 HN hB hz ezn;go_upto_region 3 with (first
  | (refine wpList_buildTo rfl 36 _ rfl _ rfl (niC h q q 0 (.slice aP P.length cP)) (by kernel_rfl) ?_)
  | (refine wpList_store_row rfl 36 _ _ rfl wx.heap.size (niC h q q 0 (.slice aP P.length cP)) (by first | rfl | simp [Act.eval]) (by first | rfl | simp [Act.eval]) 36 _ (newHeap wx _) HNI.out rfl HNO.out ?_; rw [E3.out]))
 cases th with
 | true =>
  have hFe : F = fr := by rw [HFF.out]; rfl
  obtain ⟨a0, a1⟩ := HA0.out W3 ET3.out.ah;have c14 : W3.cell? ⟨xb, 14, none⟩ = some (.int .i64 (q : Nat)) := cell_of IT3.out 14 _ rfl;have f14 := frz_of IT3.out 14;obtain ⟨W4, hW4⟩ : ∃ W4, W3.setCell ⟨xb, 14, none⟩ (.int .i64 (fr : Nat)) = W4 := ⟨_, rfl⟩;have f4 : Fr (fun k => k = xb) W3 W4 := by rw [← hW4]; exact (Fr.refl _ _).setCell _ _ (.inl rfl)
  have IT4 : Hid (W4.heap[xb]? = some (.cells (niC h F q 0 (.slice aP P.length cP)) 36)) := by rw [← hW4, hFe]; exact row_setN IT3.out 14 _
  have ET4 := tHid (ET3.out.keep f4 (fun k hk => .inr hk));have RM4 := tHid (RM3.out.keep f4 (by have := ET3.out.le; omega) (fun k hk => .inr (by rw [hk]; exact ET3.out.le.1)));clear hFe;go_upto_region 5 with fail
  (try rw [hW4])
  clear hW4 f4 a0 a1 c14 f14 IT3 ET3 RM3;rcases Bool.eq_false_or_eq_true (hasD h.typ) with hds | hds
  ·rw [hds] at HHD;have HDS := tHid hds;clear hds;obtain ⟨h6, h8⟩ := HH6.out W4 ET4.out.hd;have t0 : W4.cell? ⟨sb, 0, none⟩ = some (.slice aP P.length cP) := cell_of ET4.out.sy 0 _ rfl;have t1 : W4.cell? ⟨sb, 1, none⟩ = some (.int .i64 (q : Nat)) := cell_of ET4.out.sy 1 _ rfl
   go_wp2_with fail
   go_at_call 54
   with_reducible refine (HNUM.out _ ET4.out).mono ?_
   rintro e w5 (⟨h0, rfl, K5⟩ | ⟨h0, rfl, K5⟩)
   ·have HZ : Q (gvR (q : Nat) (NB.2 : Nat)) w5 := by
     rw [HQ.out, if_pos h0];exact ⟨by rw [Nat.add_zero], (ET4.out.keep K5 (fun _ h => h.elim)).fr, (RM4.out.nw K5).alv⟩
    have HZ' := tHid HZ;clear HZ
    go_wp2_with fail
    exact ⟨rfl, HZ'.out⟩
   have ET5 := tHid (ET4.out.keep K5 (fun _ h => h.elim));have RM5 := tHid (RM4.out.nw K5);have IT5 := tHid (Nw.heap K5 IT4.out);have HN0 := tHid h0;have y8 := (HH6.out w5 ET5.out.hd).2;clear h0 K5 ET4 RM4 IT4 h6 h8 t0 t1;have y18 : w5.cell? ⟨xb, 18, none⟩ = some (.int .i64 (0 : Nat)) := cell_of IT5.out 18 _ rfl;have z18 := frz_of IT5.out 18;obtain ⟨W6, hW6⟩ : ∃ W6, w5.setCell ⟨xb, 18, none⟩ (.int .i64 (NB.1 : Nat)) = W6 := ⟨_, rfl⟩;have f6 : Fr (fun k => k = xb) w5 W6 := by rw [← hW6]; exact (Fr.refl _ _).setCell _ _ (.inl rfl)
   have IT6 : Hid (W6.heap[xb]? = some (.cells (niC h F q NB.1 (.slice aP P.length cP)) 36)) := by rw [← hW6]; exact row_setN IT5.out 18 _
   have ET6 := tHid (ET5.out.keep f6 (fun k hk => .inr hk));have RM6 := tHid (RM5.out.keep f6 (by have := ET5.out.le; omega) (fun k hk => .inr (by rw [hk]; exact ET5.out.le.1)));go_upto_region 8 with (first
    | (go_at_call 55; (with_reducible refine (HHD.out _).mono ?_); rintro e w6 ⟨rfl, rfl⟩))
   (try rw [hW6])
   clear hW6 f6 y18 z18 y8 IT5 ET5 RM5;have t0 : W6.cell? ⟨sb, 0, none⟩ = some (.slice aP P.length cP) := cell_of ET6.out.sy 0 _ rfl;have t1 : W6.cell? ⟨sb, 1, none⟩ = some (.int .i64 (q : Nat)) := cell_of ET6.out.sy 1 _ rfl
   go_wp2_with (first
    | (refine wpList_load_mid rfl 62 _ rfl hb 0 (by first | rfl | simp [Act.eval]) CHh _ (HRG.out _ ET6.out.hd) Tryz.underlying62 rfl HCHI.out ?_)
    | (refine wpList_load_row rfl 85 _ rfl ab (by first | rfl | simp [Act.eval]) 85 _ (0, 0) _ ET6.out.ah Tryz.underlying85 rfl HAI.out ?_))
   go_at_call 56
   with_reducible refine (HSE.out _ ET6.out).mono ?_
   rintro e w7 ⟨K7, (⟨h1, rfl⟩ | ⟨h1, rfl⟩)⟩
   ·have HZ : Q (gvR (q : Nat) (mtE h P : Nat)) w7 := by
     rw [HQ.out, if_neg (fun hne => hne HN0.out), if_pos h1];exact ⟨by rw [Nat.add_zero], (ET6.out.keep K7 (fun _ h => h.elim)).fr, (RM6.out.nw K7).alv⟩
    have HZ' := tHid HZ;clear HZ;generalize mtE h P = EE at *
    go_wp2_with fail
    exact ⟨rfl, HZ'.out⟩
   rw [HENC.out];have HN1 := tHid h1;have ET7 := tHid (ET6.out.keep K7 (fun _ h => h.elim));have RM7 := tHid (RM6.out.nw K7);have IT7 := tHid (Nw.heap K7 IT6.out);clear h1 K7 ET6 RM6 IT6 t0 t1;obtain ⟨W8, hW8⟩ : ∃ W8, w7.setCells xb 0 (enC xo 0).toList = W8 := ⟨_, rfl⟩;have f8 : Fr (fun k => k = xb) w7 W8 := by rw [← hW8]; exact fr_setCells xb _ 0 w7 (Fr.refl _ _)
   have IT8 : Hid (W8.heap[xb]? = some (.cells (icC xo 0 F q 0 0 (.slice none 0 0) (.slice aP P.length cP)) 36)) := by
    rw [← hW8, HIC.out F, if_pos HDS.out];exact sc_row12 IT7.out
   have ET8 := tHid (ET7.out.keep f8 (fun k hk => .inr hk));have RM8 := tHid (RM7.out.keep f8 (by have := ET7.out.le; omega) (fun k hk => .inr (by rw [hk]; exact ET7.out.le.1)));have HTH : Hid (w7.there xb 0 (enC xo 0).size) := there_row IT7.out 12 (by show 12 ≤ 22; omega);have HEI : Hid ((Tryz.prog.info? 32).map (·.size) = some (enC xo 0).size) := by
    have q1 : (Tryz.prog.info? 32).map (·.size) = some 12 := by kernel_rfl
    exact q1
   have HEO : Hid ((enC xo 0).all (·.oneCell') = true) := by show _ = _; simp [enC, Value.oneCell']
   have HW8 := tHid hW8;clear hW8 f8;generalize hEX : enC xo 0 = EX at *;clear hEX;go_upto_region 9 with (first
    | (refine wpList_store_mid rfl 32 _ _ rfl xb 0 EX (by first | rfl | simp [Act.eval]) (by first | rfl | simp [Act.eval]) HTH.out HEI.out HEO.out ?_; rw [HW8.out]))
   clear HTH HEI HEO HW8 IT7 ET7 RM7;obtain ⟨_, r1, z1, _, _⟩ := RM8.out.cells;obtain ⟨q5, hq5⟩ : ∃ q5 : Nat, q5 = q + 512 := ⟨_, rfl⟩;have hqi : (q : Int) + 512 = (q5 : Int) := by omega
   obtain ⟨W9, hW9⟩ : ∃ W9, W8.setCell ⟨rb, 1, none⟩ (.int .i64 (q5 : Nat)) = W9 := ⟨_, rfl⟩;have RM9 : Hid (Rm (fun k => k = rb ∨ w.heap.size ≤ k) rb va vc b (q + 512) vG G W9) := by
    rw [← hW9];exact (RM8.out.go (q + 512) HQL.out (q5 : Nat) (by rw [hq5])).1
   have f9 : Fr (fun k => k = rb) W8 W9 := by rw [← hW9]; exact (Fr.refl _ _).setCell _ _ (.inl rfl)
   have ET9 := tHid (ET8.out.keep f9 (fun k hk => .inl hk));have IT9 := tHid (cell_kept f9 IT8.out (by have := ET8.out.le; omega));have hqw : IntKind.i64.wrap (q5 : Int) = (q5 : Int) := by rw [IntKind.wrap_i64]; have := RM8.out.bl; have := HQL.out; omega
   clear hq5;go_upto_region 10 with fail
   (try rw [hW9])
   clear hW9 f9 IT8 ET8 RM8 r1 z1 hqi hqw;have t0 : W9.cell? ⟨sb, 0, none⟩ = some (.slice aP P.length cP) := cell_of ET9.out.sy 0 _ rfl;have t1 : W9.cell? ⟨sb, 1, none⟩ = some (.int .i64 (q : Nat)) := cell_of ET9.out.sy 1 _ rfl
   go_wp2_with (first
    | (refine wpList_load_row rfl 89 _ rfl hb (by first | rfl | simp [Act.eval]) 89 _ (0, 0) _ ET9.out.hd Tryz.underlying89 rfl HHI.out ?_))
   go_at_call 57
   with_reducible refine (HBO2.out _ F ET9.out RM9.out IT9.out).mono ?_
   intro e wA HA;cases OB with
   | fin => exact HA.elim
   | on L g G' A' => exact HA.elim
   | bad pl E =>
    obtain ⟨rfl, KA⟩ := HA;have HZ : Q (gvR ((q + pl : Nat) : Int) (E : Nat)) wA := by
     rw [HQ.out, if_neg (fun hne => hne HN0.out), if_neg (fun hne => hne HN1.out)];exact ⟨rfl, (ET9.out.keep KA.1 (fun k hk => hk)).fr, KA.2⟩
    have HZ' := tHid HZ;clear HZ;generalize ((q + pl : Nat) : Int) = PL at *
    go_wp2_with fail
    exact ⟨rfl, HZ'.out⟩
   | got y L =>
    obtain ⟨vM, wh, rfl, hk1, hk2, KA⟩ := HA;obtain ⟨KA1, RMA', ITA', MPA'⟩ := KA.out;have ETA := tHid (ET9.out.keep KA1 (fun k hk => hk));have MPA'' : MpN w vM y.map wA := MPA'.base (ge_of ET9.out.fr);have RMA := tHid RMA';have ITA := tHid ITA';have ITA2 := tHid ITA';obtain ⟨⟨aM, nM, cM, rfl⟩, _⟩ := MPA';have MPA := tHid MPA'';have HK1 := tHid hk1;have HK2 := tHid hk2;clear hk1 hk2 KA KA1 RMA' ITA' MPA'' t0 t1 RM9 ET9 IT9;have r1 : wA.cell? ⟨rb, 1, none⟩ = some (.int .i64 ((q + L : Nat) : Int)) := RMA.out.cells.2.1;obtain ⟨qL, hqL⟩ : ∃ qL : Nat, qL = q + L := ⟨_, rfl⟩;rw [← hqL] at r1
    have c17 : wA.cell? ⟨xb, 17, none⟩ = some (.int .i64 (0 : Nat)) := cell_of ITA.out 17 _ rfl;have f17 := frz_of ITA.out 17;obtain ⟨WB, hWB⟩ : ∃ WB, wA.setCell ⟨xb, 17, none⟩ (.int .i64 (qL : Nat)) = WB := ⟨_, rfl⟩;have fB : Fr (fun k => k = xb) wA WB := by rw [← hWB]; exact (Fr.refl _ _).setCell _ _ (.inl rfl)
    have ITB : Hid (WB.heap[xb]? = some (.cells (icC y 0 F q (q + y.data) qL (.slice aM nM cM) (.slice aP P.length cP)) 36)) := by rw [← hWB]; exact row_setN ITA.out 17 _
    have ETB := tHid (ETA.out.keep fB (fun k hk => .inr hk));have RMB := tHid (RMA.out.keep fB (by have := ETA.out.le; omega) (fun k hk => .inr (by rw [hk]; exact ETA.out.le.1)));have HQE := tHid hqL;have HFB := tHid fB;clear hqL;go_upto_region 12 with fail
    (try rw [hWB])
    have HEND : Hid (∀ V, Et w rb xb hb ab ob sb HC AC ziC (.slice aP P.length cP) P q V → Rm (fun k => k = rb ∨ w.heap.size ≤ k) rb va vc b (q + L) vG G V → MpN w (.slice aM nM cM) y.map V → ∃ W5, V.setRow ob (icC y y.size F q (q + y.data) qL (.slice aM nM cM) (.slice aP P.length cP)) = W5 ∧ V.heap[ob]? = some (.cells ziC 36) ∧ (icC y y.size F q (q + y.data) qL (.slice aM nM cM) (.slice aP P.length cP)).all (·.oneCell') = true ∧ Hid (∀ tmps : Array Value, tmps.getD 6 undef = .pointer (some ⟨ob, 0, none⟩) → bodyPost Tryz.prog Tryz.f37 Q .ret ⟨tmps, []⟩ W5)) := fun V h1 h2 h3 => by
     refine ⟨_, rfl, h1.ou, by simp [icC, Value.oneCell'], fun tmps g4 => ?_⟩;refine bodyPost_ret (results_cell_row (P := Tryz.prog) (p := 6) (ty := 36) rfl _ _ ob 36 _ (0, 0) _ g4 (setRow_heap _ _ _ _ 36 _ h1.ou) Tryz.underlying36 rfl icI) rfl ?_;have fo : Fr (fun k => k = ob) V (V.setRow ob (icC y y.size F q (q + y.data) qL (.slice aM nM cM) (.slice aP P.length cP))) := (Fr.refl _ _).setRow ob _ (.inl rfl);have hobw : w.heap.size ≤ ob := HOBW.out;rw [HQ.out, if_neg (fun hne => hne HN0.out), if_neg (fun hne => hne HN1.out)];obtain ⟨og, p1, p2⟩ := h1.pn;have hoX : ob ≠ xb := h1.ne.2.2.2.1
     refine ⟨.slice aM nM cM, .slice aP P.length cP, by rw [HQE.out], h1.fr.then fo (fun i hi => .inr (by omega)), RL.step (h2.keep fo (by have := h1.le; omega) (fun k hk => .inr (by omega))) ?_, ?_, ⟨og, ?_, fun g hg => (p2 g hg).1⟩, ⟨_, _, _, rfl⟩⟩
     ·have := ge_of h1.fr;have := ge_of fo;omega
     ·obtain ⟨m1, om, m2, m3⟩ := h3;exact ⟨m1, om, m2.kept fo (fun g hg hgo => HOBM.out V om y.map aM nM cM h1 m2 m3 g hg hgo), m3⟩
     ·rw [HOBP.out y L rfl];exact p1.kept fo (fun g hg hgo => HOBN.out V og h1 p1 p2 g hg hgo)
    have HRB : Hid (WB.heap[rb]? = some (.cells #[.slice va b.length vc, .int .i64 ((q + L : Nat) : Int), vG, .int .i64 0] 51)) := RMB.out.row;clear hWB fB ITA ETA RMA r1 c17 f17 HQ HOBW HOBM HOBN HQE;by_cases hk : y.kind = 2
    ·have k1 : WB.cell? ⟨xb, 1, none⟩ = some (.int .i64 (2 : Nat)) := by
      have := cell_of ITB.out 1 (.int .i64 (y.kind : Nat)) rfl;rw [hk] at this;exact this
     have c10 : WB.cell? ⟨xb, 10, none⟩ = some (.int .i64 0) := cell_of ITB.out 10 _ rfl;have f10 := frz_of ITB.out 10;obtain ⟨WC, hWC⟩ : ∃ WC, WB.setCell ⟨xb, 10, none⟩ (.int .i64 wh) = WC := ⟨_, rfl⟩;have fC : Fr (fun k => k = xb) WB WC := by rw [← hWC]; exact (Fr.refl _ _).setCell _ _ (.inl rfl)
     have ITC : Hid (WC.heap[xb]? = some (.cells (icC y y.size F q (q + y.data) qL (.slice aM nM cM) (.slice aP P.length cP)) 36)) := by
      rw [← hWC, HK1.out hk];exact row_setN ITB.out 10 _
     have ETC := ETB.out.keep fC (fun k hk => .inr hk);have RMC := RMB.out.keep fC (by have := ETB.out.le; omega) (fun k hk => .inr (by rw [hk]; exact ETB.out.le.1));have MPC : MpN w (.slice aM nM cM) y.map WC := (MPA.out.item (HFB.out) (fun k hk => hk) ITA2.out).item fC (fun k hk => hk) ITB.out;obtain ⟨W5, e5, u1, u2, HBX⟩ := HEND.out WC ETC RMC MPC;have U1 := tHid u1;have U2 := tHid u2;have E5 := tHid e5;clear hk fC ETC RMC MPC u1 u2 e5 HEND
     go_wp2_with (first
      | (refine wpList_load_row rfl 36 _ rfl xb (by first | rfl | simp [Act.eval]) 36 _ (0, 0) _ ITC.out Tryz.underlying36 rfl icI ?_)
      | (refine wpList_store_row rfl 36 _ _ rfl ob (icC y y.size F q (q + y.data) qL (.slice aM nM cM) (.slice aP P.length cP)) (by first | rfl | simp [Act.eval]) (by first | rfl | simp [Act.eval]) 36 _ U1.out icI rfl U2.out ?_; rw [E5.out]))
     (try simp only [Exit.inBlock, Exit.then])
     exact HBX.out _ rfl
    ·have k1 : WB.cell? ⟨xb, 1, none⟩ = some (.int .i64 (y.kind : Nat)) := cell_of ITB.out 1 _ rfl;have k2 : (((y.kind : Nat) : Int) == 2) = false := by rw [beq_eq_false_iff_ne]; omega
     have ITC : Hid (WB.heap[xb]? = some (.cells (icC y y.size F q (q + y.data) qL (.slice aM nM cM) (.slice aP P.length cP)) 36)) := by
      show _ = _;rw [HK2.out hk];exact ITB.out
     have MPC : MpN w (.slice aM nM cM) y.map WB := MPA.out.item (HFB.out) (fun k hk => hk) ITA2.out;obtain ⟨W5, e5, u1, u2, HBX⟩ := HEND.out WB ETB.out RMB.out MPC;have U1 := tHid u1;have U2 := tHid u2;have E5 := tHid e5;clear hk MPC u1 u2 e5 HEND
     go_wp2_with (first
      | (refine wpList_load_row rfl 36 _ rfl xb (by first | rfl | simp [Act.eval]) 36 _ (0, 0) _ ITC.out Tryz.underlying36 rfl icI ?_)
      | (refine wpList_store_row rfl 36 _ _ rfl ob (icC y y.size F q (q + y.data) qL (.slice aM nM cM) (.slice aP P.length cP)) (by first | rfl | simp [Act.eval]) (by first | rfl | simp [Act.eval]) 36 _ U1.out icI rfl U2.out ?_; rw [E5.out]))
     (try simp only [Exit.inBlock, Exit.then])
     exact HBX.out _ rfl
  ·rw [hds] at HHD;have HDS := tHid hds;clear hds;obtain ⟨h6, h8⟩ := HH6.out W4 ET4.out.hd;have t0 : W4.cell? ⟨sb, 0, none⟩ = some (.slice aP P.length cP) := cell_of ET4.out.sy 0 _ rfl;have t1 : W4.cell? ⟨sb, 1, none⟩ = some (.int .i64 (q : Nat)) := cell_of ET4.out.sy 1 _ rfl
   go_wp2_with fail
   go_at_call 54
   with_reducible refine (HNUM.out _ ET4.out).mono ?_
   rintro e w5 (⟨h0, rfl, K5⟩ | ⟨h0, rfl, K5⟩)
   ·have HZ : Q (gvR (q : Nat) (NB.2 : Nat)) w5 := by
     rw [HQ.out, if_pos h0];exact ⟨by rw [Nat.add_zero], (ET4.out.keep K5 (fun _ h => h.elim)).fr, (RM4.out.nw K5).alv⟩
    have HZ' := tHid HZ;clear HZ
    go_wp2_with fail
    exact ⟨rfl, HZ'.out⟩
   have ET5 := tHid (ET4.out.keep K5 (fun _ h => h.elim));have RM5 := tHid (RM4.out.nw K5);have IT5 := tHid (Nw.heap K5 IT4.out);have HN0 := tHid h0;have y8 := (HH6.out w5 ET5.out.hd).2;clear h0 K5 ET4 RM4 IT4 h6 h8 t0 t1;obtain ⟨W6, hW6⟩ : ∃ W6, W6 = w5 := ⟨_, rfl⟩;have IT6 : Hid (W6.heap[xb]? = some (.cells (niC h F q 0 (.slice aP P.length cP)) 36)) := by rw [hW6]; exact IT5.out
   have ET6 := tHid ET5.out;have RM6 := tHid RM5.out;rw [← hW6] at ET6 RM6;go_upto_region 8 with (first
    | (go_at_call 55; (with_reducible refine (HHD.out _).mono ?_); rintro e w6 ⟨rfl, rfl⟩))
   (try rw [← hW6])
   clear hW6 y8 IT5 ET5 RM5;have t0 : W6.cell? ⟨sb, 0, none⟩ = some (.slice aP P.length cP) := cell_of ET6.out.sy 0 _ rfl;have t1 : W6.cell? ⟨sb, 1, none⟩ = some (.int .i64 (q : Nat)) := cell_of ET6.out.sy 1 _ rfl
   go_wp2_with (first
    | (refine wpList_load_mid rfl 62 _ rfl hb 0 (by first | rfl | simp [Act.eval]) CHh _ (HRG.out _ ET6.out.hd) Tryz.underlying62 rfl HCHI.out ?_)
    | (refine wpList_load_row rfl 85 _ rfl ab (by first | rfl | simp [Act.eval]) 85 _ (0, 0) _ ET6.out.ah Tryz.underlying85 rfl HAI.out ?_))
   go_at_call 56
   with_reducible refine (HSE.out _ ET6.out).mono ?_
   rintro e w7 ⟨K7, (⟨h1, rfl⟩ | ⟨h1, rfl⟩)⟩
   ·have HZ : Q (gvR (q : Nat) (mtE h P : Nat)) w7 := by
     rw [HQ.out, if_neg (fun hne => hne HN0.out), if_pos h1];exact ⟨by rw [Nat.add_zero], (ET6.out.keep K7 (fun _ h => h.elim)).fr, (RM6.out.nw K7).alv⟩
    have HZ' := tHid HZ;clear HZ;generalize mtE h P = EE at *
    go_wp2_with fail
    exact ⟨rfl, HZ'.out⟩
   rw [HENC.out];have HN1 := tHid h1;have ET7 := tHid (ET6.out.keep K7 (fun _ h => h.elim));have RM7 := tHid (RM6.out.nw K7);have IT7 := tHid (Nw.heap K7 IT6.out);clear h1 K7 ET6 RM6 IT6 t0 t1;obtain ⟨W8, hW8⟩ : ∃ W8, w7.setCells xb 0 (enC xo 0).toList = W8 := ⟨_, rfl⟩;have f8 : Fr (fun k => k = xb) w7 W8 := by rw [← hW8]; exact fr_setCells xb _ 0 w7 (Fr.refl _ _)
   have IT8 : Hid (W8.heap[xb]? = some (.cells (icC xo 0 F q 0 0 (.slice none 0 0) (.slice aP P.length cP)) 36)) := by
    rw [← hW8, HIC.out F, if_neg (by rw [HDS.out]; simp)];exact sc_row12 IT7.out
   have ET8 := tHid (ET7.out.keep f8 (fun k hk => .inr hk));have RM8 := tHid (RM7.out.keep f8 (by have := ET7.out.le; omega) (fun k hk => .inr (by rw [hk]; exact ET7.out.le.1)));have HTH : Hid (w7.there xb 0 (enC xo 0).size) := there_row IT7.out 12 (by show 12 ≤ 22; omega);have HEI : Hid ((Tryz.prog.info? 32).map (·.size) = some (enC xo 0).size) := by
    have q1 : (Tryz.prog.info? 32).map (·.size) = some 12 := by kernel_rfl
    exact q1
   have HEO : Hid ((enC xo 0).all (·.oneCell') = true) := by show _ = _; simp [enC, Value.oneCell']
   have HW8 := tHid hW8;clear hW8 f8;generalize hEX : enC xo 0 = EX at *;clear hEX;go_upto_region 9 with (first
    | (refine wpList_store_mid rfl 32 _ _ rfl xb 0 EX (by first | rfl | simp [Act.eval]) (by first | rfl | simp [Act.eval]) HTH.out HEI.out HEO.out ?_; rw [HW8.out]))
   clear HTH HEI HEO HW8 IT7 ET7 RM7;obtain ⟨_, r1, z1, _, _⟩ := RM8.out.cells;obtain ⟨q5, hq5⟩ : ∃ q5 : Nat, q5 = q + 512 := ⟨_, rfl⟩;have hqi : (q : Int) + 512 = (q5 : Int) := by omega
   obtain ⟨W9, hW9⟩ : ∃ W9, W8.setCell ⟨rb, 1, none⟩ (.int .i64 (q5 : Nat)) = W9 := ⟨_, rfl⟩;have RM9 : Hid (Rm (fun k => k = rb ∨ w.heap.size ≤ k) rb va vc b (q + 512) vG G W9) := by
    rw [← hW9];exact (RM8.out.go (q + 512) HQL.out (q5 : Nat) (by rw [hq5])).1
   have f9 : Fr (fun k => k = rb) W8 W9 := by rw [← hW9]; exact (Fr.refl _ _).setCell _ _ (.inl rfl)
   have ET9 := tHid (ET8.out.keep f9 (fun k hk => .inl hk));have IT9 := tHid (cell_kept f9 IT8.out (by have := ET8.out.le; omega));have hqw : IntKind.i64.wrap (q5 : Int) = (q5 : Int) := by rw [IntKind.wrap_i64]; have := RM8.out.bl; have := HQL.out; omega
   clear hq5;go_upto_region 10 with fail
   (try rw [hW9])
   clear hW9 f9 IT8 ET8 RM8 r1 z1 hqi hqw;have t0 : W9.cell? ⟨sb, 0, none⟩ = some (.slice aP P.length cP) := cell_of ET9.out.sy 0 _ rfl;have t1 : W9.cell? ⟨sb, 1, none⟩ = some (.int .i64 (q : Nat)) := cell_of ET9.out.sy 1 _ rfl
   go_wp2_with (first
    | (refine wpList_load_row rfl 89 _ rfl hb (by first | rfl | simp [Act.eval]) 89 _ (0, 0) _ ET9.out.hd Tryz.underlying89 rfl HHI.out ?_))
   go_at_call 57
   with_reducible refine (HBO2.out _ F ET9.out RM9.out IT9.out).mono ?_
   intro e wA HA;cases OB with
   | fin => exact HA.elim
   | on L g G' A' => exact HA.elim
   | bad pl E =>
    obtain ⟨rfl, KA⟩ := HA;have HZ : Q (gvR ((q + pl : Nat) : Int) (E : Nat)) wA := by
     rw [HQ.out, if_neg (fun hne => hne HN0.out), if_neg (fun hne => hne HN1.out)];exact ⟨rfl, (ET9.out.keep KA.1 (fun k hk => hk)).fr, KA.2⟩
    have HZ' := tHid HZ;clear HZ;generalize ((q + pl : Nat) : Int) = PL at *
    go_wp2_with fail
    exact ⟨rfl, HZ'.out⟩
   | got y L =>
    obtain ⟨vM, wh, rfl, hk1, hk2, KA⟩ := HA;obtain ⟨KA1, RMA', ITA', MPA'⟩ := KA.out;have ETA := tHid (ET9.out.keep KA1 (fun k hk => hk));have MPA'' : MpN w vM y.map wA := MPA'.base (ge_of ET9.out.fr);have RMA := tHid RMA';have ITA := tHid ITA';have ITA2 := tHid ITA';obtain ⟨⟨aM, nM, cM, rfl⟩, _⟩ := MPA';have MPA := tHid MPA'';have HK1 := tHid hk1;have HK2 := tHid hk2;clear hk1 hk2 KA KA1 RMA' ITA' MPA'' t0 t1 RM9 ET9 IT9;have r1 : wA.cell? ⟨rb, 1, none⟩ = some (.int .i64 ((q + L : Nat) : Int)) := RMA.out.cells.2.1;obtain ⟨qL, hqL⟩ : ∃ qL : Nat, qL = q + L := ⟨_, rfl⟩;rw [← hqL] at r1
    have c17 : wA.cell? ⟨xb, 17, none⟩ = some (.int .i64 (0 : Nat)) := cell_of ITA.out 17 _ rfl;have f17 := frz_of ITA.out 17;obtain ⟨WB, hWB⟩ : ∃ WB, wA.setCell ⟨xb, 17, none⟩ (.int .i64 (qL : Nat)) = WB := ⟨_, rfl⟩;have fB : Fr (fun k => k = xb) wA WB := by rw [← hWB]; exact (Fr.refl _ _).setCell _ _ (.inl rfl)
    have ITB : Hid (WB.heap[xb]? = some (.cells (icC y 0 F q (q + y.data) qL (.slice aM nM cM) (.slice aP P.length cP)) 36)) := by rw [← hWB]; exact row_setN ITA.out 17 _
    have ETB := tHid (ETA.out.keep fB (fun k hk => .inr hk));have RMB := tHid (RMA.out.keep fB (by have := ETA.out.le; omega) (fun k hk => .inr (by rw [hk]; exact ETA.out.le.1)));have HQE := tHid hqL;have HFB := tHid fB;clear hqL;go_upto_region 12 with fail
    (try rw [hWB])
    have HEND : Hid (∀ V, Et w rb xb hb ab ob sb HC AC ziC (.slice aP P.length cP) P q V → Rm (fun k => k = rb ∨ w.heap.size ≤ k) rb va vc b (q + L) vG G V → MpN w (.slice aM nM cM) y.map V → ∃ W5, V.setRow ob (icC y y.size F q (q + y.data) qL (.slice aM nM cM) (.slice aP P.length cP)) = W5 ∧ V.heap[ob]? = some (.cells ziC 36) ∧ (icC y y.size F q (q + y.data) qL (.slice aM nM cM) (.slice aP P.length cP)).all (·.oneCell') = true ∧ Hid (∀ tmps : Array Value, tmps.getD 6 undef = .pointer (some ⟨ob, 0, none⟩) → bodyPost Tryz.prog Tryz.f37 Q .ret ⟨tmps, []⟩ W5)) := fun V h1 h2 h3 => by
     refine ⟨_, rfl, h1.ou, by simp [icC, Value.oneCell'], fun tmps g4 => ?_⟩;refine bodyPost_ret (results_cell_row (P := Tryz.prog) (p := 6) (ty := 36) rfl _ _ ob 36 _ (0, 0) _ g4 (setRow_heap _ _ _ _ 36 _ h1.ou) Tryz.underlying36 rfl icI) rfl ?_;have fo : Fr (fun k => k = ob) V (V.setRow ob (icC y y.size F q (q + y.data) qL (.slice aM nM cM) (.slice aP P.length cP))) := (Fr.refl _ _).setRow ob _ (.inl rfl);have hobw : w.heap.size ≤ ob := HOBW.out;rw [HQ.out, if_neg (fun hne => hne HN0.out), if_neg (fun hne => hne HN1.out)];obtain ⟨og, p1, p2⟩ := h1.pn;have hoX : ob ≠ xb := h1.ne.2.2.2.1
     refine ⟨.slice aM nM cM, .slice aP P.length cP, by rw [HQE.out], h1.fr.then fo (fun i hi => .inr (by omega)), RL.step (h2.keep fo (by have := h1.le; omega) (fun k hk => .inr (by omega))) ?_, ?_, ⟨og, ?_, fun g hg => (p2 g hg).1⟩, ⟨_, _, _, rfl⟩⟩
     ·have := ge_of h1.fr;have := ge_of fo;omega
     ·obtain ⟨m1, om, m2, m3⟩ := h3;exact ⟨m1, om, m2.kept fo (fun g hg hgo => HOBM.out V om y.map aM nM cM h1 m2 m3 g hg hgo), m3⟩
     ·rw [HOBP.out y L rfl];exact p1.kept fo (fun g hg hgo => HOBN.out V og h1 p1 p2 g hg hgo)
    have HRB : Hid (WB.heap[rb]? = some (.cells #[.slice va b.length vc, .int .i64 ((q + L : Nat) : Int), vG, .int .i64 0] 51)) := RMB.out.row;clear hWB fB ITA ETA RMA r1 c17 f17 HQ HOBW HOBM HOBN HQE;by_cases hk : y.kind = 2
    ·have k1 : WB.cell? ⟨xb, 1, none⟩ = some (.int .i64 (2 : Nat)) := by
      have := cell_of ITB.out 1 (.int .i64 (y.kind : Nat)) rfl;rw [hk] at this;exact this
     have c10 : WB.cell? ⟨xb, 10, none⟩ = some (.int .i64 0) := cell_of ITB.out 10 _ rfl;have f10 := frz_of ITB.out 10;obtain ⟨WC, hWC⟩ : ∃ WC, WB.setCell ⟨xb, 10, none⟩ (.int .i64 wh) = WC := ⟨_, rfl⟩;have fC : Fr (fun k => k = xb) WB WC := by rw [← hWC]; exact (Fr.refl _ _).setCell _ _ (.inl rfl)
     have ITC : Hid (WC.heap[xb]? = some (.cells (icC y y.size F q (q + y.data) qL (.slice aM nM cM) (.slice aP P.length cP)) 36)) := by
      rw [← hWC, HK1.out hk];exact row_setN ITB.out 10 _
     have ETC := ETB.out.keep fC (fun k hk => .inr hk);have RMC := RMB.out.keep fC (by have := ETB.out.le; omega) (fun k hk => .inr (by rw [hk]; exact ETB.out.le.1));have MPC : MpN w (.slice aM nM cM) y.map WC := (MPA.out.item (HFB.out) (fun k hk => hk) ITA2.out).item fC (fun k hk => hk) ITB.out;obtain ⟨W5, e5, u1, u2, HBX⟩ := HEND.out WC ETC RMC MPC;have U1 := tHid u1;have U2 := tHid u2;have E5 := tHid e5;clear hk fC ETC RMC MPC u1 u2 e5 HEND
     go_wp2_with (first
      | (refine wpList_load_row rfl 36 _ rfl xb (by first | rfl | simp [Act.eval]) 36 _ (0, 0) _ ITC.out Tryz.underlying36 rfl icI ?_)
      | (refine wpList_store_row rfl 36 _ _ rfl ob (icC y y.size F q (q + y.data) qL (.slice aM nM cM) (.slice aP P.length cP)) (by first | rfl | simp [Act.eval]) (by first | rfl | simp [Act.eval]) 36 _ U1.out icI rfl U2.out ?_; rw [E5.out]))
     (try simp only [Exit.inBlock, Exit.then])
     exact HBX.out _ rfl
    ·have k1 : WB.cell? ⟨xb, 1, none⟩ = some (.int .i64 (y.kind : Nat)) := cell_of ITB.out 1 _ rfl;have k2 : (((y.kind : Nat) : Int) == 2) = false := by rw [beq_eq_false_iff_ne]; omega
     have ITC : Hid (WB.heap[xb]? = some (.cells (icC y y.size F q (q + y.data) qL (.slice aM nM cM) (.slice aP P.length cP)) 36)) := by
      show _ = _;rw [HK2.out hk];exact ITB.out
     have MPC : MpN w (.slice aM nM cM) y.map WB := MPA.out.item (HFB.out) (fun k hk => hk) ITA2.out;obtain ⟨W5, e5, u1, u2, HBX⟩ := HEND.out WB ETB.out RMB.out MPC;have U1 := tHid u1;have U2 := tHid u2;have E5 := tHid e5;clear hk MPC u1 u2 e5 HEND
     go_wp2_with (first
      | (refine wpList_load_row rfl 36 _ rfl xb (by first | rfl | simp [Act.eval]) 36 _ (0, 0) _ ITC.out Tryz.underlying36 rfl icI ?_)
      | (refine wpList_store_row rfl 36 _ _ rfl ob (icC y y.size F q (q + y.data) qL (.slice aM nM cM) (.slice aP P.length cP)) (by first | rfl | simp [Act.eval]) (by first | rfl | simp [Act.eval]) 36 _ U1.out icI rfl U2.out ?_; rw [E5.out]))
     (try simp only [Exit.inBlock, Exit.then])
     exact HBX.out _ rfl
 | false =>
  have hFe : F = q := by rw [HFF.out]; rfl
  obtain ⟨a0, a1⟩ := HA0.out W3 ET3.out.ah;obtain ⟨W4, hW4⟩ : ∃ W4, W4 = W3 := ⟨_, rfl⟩;have IT4 : Hid (W4.heap[xb]? = some (.cells (niC h F q 0 (.slice aP P.length cP)) 36)) := by rw [hW4, hFe]; exact IT3.out
  have ET4 := tHid ET3.out;have RM4 := tHid RM3.out;rw [← hW4] at ET4 RM4;clear hFe;go_upto_region 5 with fail
  (try rw [← hW4])
  clear hW4 a0 a1 IT3 ET3 RM3;rcases Bool.eq_false_or_eq_true (hasD h.typ) with hds | hds
  ·rw [hds] at HHD;have HDS := tHid hds;clear hds;obtain ⟨h6, h8⟩ := HH6.out W4 ET4.out.hd;have t0 : W4.cell? ⟨sb, 0, none⟩ = some (.slice aP P.length cP) := cell_of ET4.out.sy 0 _ rfl;have t1 : W4.cell? ⟨sb, 1, none⟩ = some (.int .i64 (q : Nat)) := cell_of ET4.out.sy 1 _ rfl
   go_wp2_with fail
   go_at_call 54
   with_reducible refine (HNUM.out _ ET4.out).mono ?_
   rintro e w5 (⟨h0, rfl, K5⟩ | ⟨h0, rfl, K5⟩)
   ·have HZ : Q (gvR (q : Nat) (NB.2 : Nat)) w5 := by
     rw [HQ.out, if_pos h0];exact ⟨by rw [Nat.add_zero], (ET4.out.keep K5 (fun _ h => h.elim)).fr, (RM4.out.nw K5).alv⟩
    have HZ' := tHid HZ;clear HZ
    go_wp2_with fail
    exact ⟨rfl, HZ'.out⟩
   have ET5 := tHid (ET4.out.keep K5 (fun _ h => h.elim));have RM5 := tHid (RM4.out.nw K5);have IT5 := tHid (Nw.heap K5 IT4.out);have HN0 := tHid h0;have y8 := (HH6.out w5 ET5.out.hd).2;clear h0 K5 ET4 RM4 IT4 h6 h8 t0 t1;have y18 : w5.cell? ⟨xb, 18, none⟩ = some (.int .i64 (0 : Nat)) := cell_of IT5.out 18 _ rfl;have z18 := frz_of IT5.out 18;obtain ⟨W6, hW6⟩ : ∃ W6, w5.setCell ⟨xb, 18, none⟩ (.int .i64 (NB.1 : Nat)) = W6 := ⟨_, rfl⟩;have f6 : Fr (fun k => k = xb) w5 W6 := by rw [← hW6]; exact (Fr.refl _ _).setCell _ _ (.inl rfl)
   have IT6 : Hid (W6.heap[xb]? = some (.cells (niC h F q NB.1 (.slice aP P.length cP)) 36)) := by rw [← hW6]; exact row_setN IT5.out 18 _
   have ET6 := tHid (ET5.out.keep f6 (fun k hk => .inr hk));have RM6 := tHid (RM5.out.keep f6 (by have := ET5.out.le; omega) (fun k hk => .inr (by rw [hk]; exact ET5.out.le.1)));go_upto_region 8 with (first
    | (go_at_call 55; (with_reducible refine (HHD.out _).mono ?_); rintro e w6 ⟨rfl, rfl⟩))
   (try rw [hW6])
   clear hW6 f6 y18 z18 y8 IT5 ET5 RM5;have t0 : W6.cell? ⟨sb, 0, none⟩ = some (.slice aP P.length cP) := cell_of ET6.out.sy 0 _ rfl;have t1 : W6.cell? ⟨sb, 1, none⟩ = some (.int .i64 (q : Nat)) := cell_of ET6.out.sy 1 _ rfl
   go_wp2_with (first
    | (refine wpList_load_mid rfl 62 _ rfl hb 0 (by first | rfl | simp [Act.eval]) CHh _ (HRG.out _ ET6.out.hd) Tryz.underlying62 rfl HCHI.out ?_)
    | (refine wpList_load_row rfl 85 _ rfl ab (by first | rfl | simp [Act.eval]) 85 _ (0, 0) _ ET6.out.ah Tryz.underlying85 rfl HAI.out ?_))
   go_at_call 56
   with_reducible refine (HSE.out _ ET6.out).mono ?_
   rintro e w7 ⟨K7, (⟨h1, rfl⟩ | ⟨h1, rfl⟩)⟩
   ·have HZ : Q (gvR (q : Nat) (mtE h P : Nat)) w7 := by
     rw [HQ.out, if_neg (fun hne => hne HN0.out), if_pos h1];exact ⟨by rw [Nat.add_zero], (ET6.out.keep K7 (fun _ h => h.elim)).fr, (RM6.out.nw K7).alv⟩
    have HZ' := tHid HZ;clear HZ;generalize mtE h P = EE at *
    go_wp2_with fail
    exact ⟨rfl, HZ'.out⟩
   rw [HENC.out];have HN1 := tHid h1;have ET7 := tHid (ET6.out.keep K7 (fun _ h => h.elim));have RM7 := tHid (RM6.out.nw K7);have IT7 := tHid (Nw.heap K7 IT6.out);clear h1 K7 ET6 RM6 IT6 t0 t1;obtain ⟨W8, hW8⟩ : ∃ W8, w7.setCells xb 0 (enC xo 0).toList = W8 := ⟨_, rfl⟩;have f8 : Fr (fun k => k = xb) w7 W8 := by rw [← hW8]; exact fr_setCells xb _ 0 w7 (Fr.refl _ _)
   have IT8 : Hid (W8.heap[xb]? = some (.cells (icC xo 0 F q 0 0 (.slice none 0 0) (.slice aP P.length cP)) 36)) := by
    rw [← hW8, HIC.out F, if_pos HDS.out];exact sc_row12 IT7.out
   have ET8 := tHid (ET7.out.keep f8 (fun k hk => .inr hk));have RM8 := tHid (RM7.out.keep f8 (by have := ET7.out.le; omega) (fun k hk => .inr (by rw [hk]; exact ET7.out.le.1)));have HTH : Hid (w7.there xb 0 (enC xo 0).size) := there_row IT7.out 12 (by show 12 ≤ 22; omega);have HEI : Hid ((Tryz.prog.info? 32).map (·.size) = some (enC xo 0).size) := by
    have q1 : (Tryz.prog.info? 32).map (·.size) = some 12 := by kernel_rfl
    exact q1
   have HEO : Hid ((enC xo 0).all (·.oneCell') = true) := by show _ = _; simp [enC, Value.oneCell']
   have HW8 := tHid hW8;clear hW8 f8;generalize hEX : enC xo 0 = EX at *;clear hEX;go_upto_region 9 with (first
    | (refine wpList_store_mid rfl 32 _ _ rfl xb 0 EX (by first | rfl | simp [Act.eval]) (by first | rfl | simp [Act.eval]) HTH.out HEI.out HEO.out ?_; rw [HW8.out]))
   clear HTH HEI HEO HW8 IT7 ET7 RM7;obtain ⟨_, r1, z1, _, _⟩ := RM8.out.cells;obtain ⟨q5, hq5⟩ : ∃ q5 : Nat, q5 = q + 512 := ⟨_, rfl⟩;have hqi : (q : Int) + 512 = (q5 : Int) := by omega
   obtain ⟨W9, hW9⟩ : ∃ W9, W8.setCell ⟨rb, 1, none⟩ (.int .i64 (q5 : Nat)) = W9 := ⟨_, rfl⟩;have RM9 : Hid (Rm (fun k => k = rb ∨ w.heap.size ≤ k) rb va vc b (q + 512) vG G W9) := by
    rw [← hW9];exact (RM8.out.go (q + 512) HQL.out (q5 : Nat) (by rw [hq5])).1
   have f9 : Fr (fun k => k = rb) W8 W9 := by rw [← hW9]; exact (Fr.refl _ _).setCell _ _ (.inl rfl)
   have ET9 := tHid (ET8.out.keep f9 (fun k hk => .inl hk));have IT9 := tHid (cell_kept f9 IT8.out (by have := ET8.out.le; omega));have hqw : IntKind.i64.wrap (q5 : Int) = (q5 : Int) := by rw [IntKind.wrap_i64]; have := RM8.out.bl; have := HQL.out; omega
   clear hq5;go_upto_region 10 with fail
   (try rw [hW9])
   clear hW9 f9 IT8 ET8 RM8 r1 z1 hqi hqw;have t0 : W9.cell? ⟨sb, 0, none⟩ = some (.slice aP P.length cP) := cell_of ET9.out.sy 0 _ rfl;have t1 : W9.cell? ⟨sb, 1, none⟩ = some (.int .i64 (q : Nat)) := cell_of ET9.out.sy 1 _ rfl
   go_wp2_with (first
    | (refine wpList_load_row rfl 89 _ rfl hb (by first | rfl | simp [Act.eval]) 89 _ (0, 0) _ ET9.out.hd Tryz.underlying89 rfl HHI.out ?_))
   go_at_call 57
   with_reducible refine (HBO2.out _ F ET9.out RM9.out IT9.out).mono ?_
   intro e wA HA;cases OB with
   | fin => exact HA.elim
   | on L g G' A' => exact HA.elim
   | bad pl E =>
    obtain ⟨rfl, KA⟩ := HA;have HZ : Q (gvR ((q + pl : Nat) : Int) (E : Nat)) wA := by
     rw [HQ.out, if_neg (fun hne => hne HN0.out), if_neg (fun hne => hne HN1.out)];exact ⟨rfl, (ET9.out.keep KA.1 (fun k hk => hk)).fr, KA.2⟩
    have HZ' := tHid HZ;clear HZ;generalize ((q + pl : Nat) : Int) = PL at *
    go_wp2_with fail
    exact ⟨rfl, HZ'.out⟩
   | got y L =>
    obtain ⟨vM, wh, rfl, hk1, hk2, KA⟩ := HA;obtain ⟨KA1, RMA', ITA', MPA'⟩ := KA.out;have ETA := tHid (ET9.out.keep KA1 (fun k hk => hk));have MPA'' : MpN w vM y.map wA := MPA'.base (ge_of ET9.out.fr);have RMA := tHid RMA';have ITA := tHid ITA';have ITA2 := tHid ITA';obtain ⟨⟨aM, nM, cM, rfl⟩, _⟩ := MPA';have MPA := tHid MPA'';have HK1 := tHid hk1;have HK2 := tHid hk2;clear hk1 hk2 KA KA1 RMA' ITA' MPA'' t0 t1 RM9 ET9 IT9;have r1 : wA.cell? ⟨rb, 1, none⟩ = some (.int .i64 ((q + L : Nat) : Int)) := RMA.out.cells.2.1;obtain ⟨qL, hqL⟩ : ∃ qL : Nat, qL = q + L := ⟨_, rfl⟩;rw [← hqL] at r1
    have c17 : wA.cell? ⟨xb, 17, none⟩ = some (.int .i64 (0 : Nat)) := cell_of ITA.out 17 _ rfl;have f17 := frz_of ITA.out 17;obtain ⟨WB, hWB⟩ : ∃ WB, wA.setCell ⟨xb, 17, none⟩ (.int .i64 (qL : Nat)) = WB := ⟨_, rfl⟩;have fB : Fr (fun k => k = xb) wA WB := by rw [← hWB]; exact (Fr.refl _ _).setCell _ _ (.inl rfl)
    have ITB : Hid (WB.heap[xb]? = some (.cells (icC y 0 F q (q + y.data) qL (.slice aM nM cM) (.slice aP P.length cP)) 36)) := by rw [← hWB]; exact row_setN ITA.out 17 _
    have ETB := tHid (ETA.out.keep fB (fun k hk => .inr hk));have RMB := tHid (RMA.out.keep fB (by have := ETA.out.le; omega) (fun k hk => .inr (by rw [hk]; exact ETA.out.le.1)));have HQE := tHid hqL;have HFB := tHid fB;clear hqL;go_upto_region 12 with fail
    (try rw [hWB])
    have HEND : Hid (∀ V, Et w rb xb hb ab ob sb HC AC ziC (.slice aP P.length cP) P q V → Rm (fun k => k = rb ∨ w.heap.size ≤ k) rb va vc b (q + L) vG G V → MpN w (.slice aM nM cM) y.map V → ∃ W5, V.setRow ob (icC y y.size F q (q + y.data) qL (.slice aM nM cM) (.slice aP P.length cP)) = W5 ∧ V.heap[ob]? = some (.cells ziC 36) ∧ (icC y y.size F q (q + y.data) qL (.slice aM nM cM) (.slice aP P.length cP)).all (·.oneCell') = true ∧ Hid (∀ tmps : Array Value, tmps.getD 6 undef = .pointer (some ⟨ob, 0, none⟩) → bodyPost Tryz.prog Tryz.f37 Q .ret ⟨tmps, []⟩ W5)) := fun V h1 h2 h3 => by
     refine ⟨_, rfl, h1.ou, by simp [icC, Value.oneCell'], fun tmps g4 => ?_⟩;refine bodyPost_ret (results_cell_row (P := Tryz.prog) (p := 6) (ty := 36) rfl _ _ ob 36 _ (0, 0) _ g4 (setRow_heap _ _ _ _ 36 _ h1.ou) Tryz.underlying36 rfl icI) rfl ?_;have fo : Fr (fun k => k = ob) V (V.setRow ob (icC y y.size F q (q + y.data) qL (.slice aM nM cM) (.slice aP P.length cP))) := (Fr.refl _ _).setRow ob _ (.inl rfl);have hobw : w.heap.size ≤ ob := HOBW.out;rw [HQ.out, if_neg (fun hne => hne HN0.out), if_neg (fun hne => hne HN1.out)];obtain ⟨og, p1, p2⟩ := h1.pn;have hoX : ob ≠ xb := h1.ne.2.2.2.1
     refine ⟨.slice aM nM cM, .slice aP P.length cP, by rw [HQE.out], h1.fr.then fo (fun i hi => .inr (by omega)), RL.step (h2.keep fo (by have := h1.le; omega) (fun k hk => .inr (by omega))) ?_, ?_, ⟨og, ?_, fun g hg => (p2 g hg).1⟩, ⟨_, _, _, rfl⟩⟩
     ·have := ge_of h1.fr;have := ge_of fo;omega
     ·obtain ⟨m1, om, m2, m3⟩ := h3;exact ⟨m1, om, m2.kept fo (fun g hg hgo => HOBM.out V om y.map aM nM cM h1 m2 m3 g hg hgo), m3⟩
     ·rw [HOBP.out y L rfl];exact p1.kept fo (fun g hg hgo => HOBN.out V og h1 p1 p2 g hg hgo)
    have HRB : Hid (WB.heap[rb]? = some (.cells #[.slice va b.length vc, .int .i64 ((q + L : Nat) : Int), vG, .int .i64 0] 51)) := RMB.out.row;clear hWB fB ITA ETA RMA r1 c17 f17 HQ HOBW HOBM HOBN HQE;by_cases hk : y.kind = 2
    ·have k1 : WB.cell? ⟨xb, 1, none⟩ = some (.int .i64 (2 : Nat)) := by
      have := cell_of ITB.out 1 (.int .i64 (y.kind : Nat)) rfl;rw [hk] at this;exact this
     have c10 : WB.cell? ⟨xb, 10, none⟩ = some (.int .i64 0) := cell_of ITB.out 10 _ rfl;have f10 := frz_of ITB.out 10;obtain ⟨WC, hWC⟩ : ∃ WC, WB.setCell ⟨xb, 10, none⟩ (.int .i64 wh) = WC := ⟨_, rfl⟩;have fC : Fr (fun k => k = xb) WB WC := by rw [← hWC]; exact (Fr.refl _ _).setCell _ _ (.inl rfl)
     have ITC : Hid (WC.heap[xb]? = some (.cells (icC y y.size F q (q + y.data) qL (.slice aM nM cM) (.slice aP P.length cP)) 36)) := by
      rw [← hWC, HK1.out hk];exact row_setN ITB.out 10 _
     have ETC := ETB.out.keep fC (fun k hk => .inr hk);have RMC := RMB.out.keep fC (by have := ETB.out.le; omega) (fun k hk => .inr (by rw [hk]; exact ETB.out.le.1));have MPC : MpN w (.slice aM nM cM) y.map WC := (MPA.out.item (HFB.out) (fun k hk => hk) ITA2.out).item fC (fun k hk => hk) ITB.out;obtain ⟨W5, e5, u1, u2, HBX⟩ := HEND.out WC ETC RMC MPC;have U1 := tHid u1;have U2 := tHid u2;have E5 := tHid e5;clear hk fC ETC RMC MPC u1 u2 e5 HEND
     go_wp2_with (first
      | (refine wpList_load_row rfl 36 _ rfl xb (by first | rfl | simp [Act.eval]) 36 _ (0, 0) _ ITC.out Tryz.underlying36 rfl icI ?_)
      | (refine wpList_store_row rfl 36 _ _ rfl ob (icC y y.size F q (q + y.data) qL (.slice aM nM cM) (.slice aP P.length cP)) (by first | rfl | simp [Act.eval]) (by first | rfl | simp [Act.eval]) 36 _ U1.out icI rfl U2.out ?_; rw [E5.out]))
     (try simp only [Exit.inBlock, Exit.then])
     exact HBX.out _ rfl
    ·have k1 : WB.cell? ⟨xb, 1, none⟩ = some (.int .i64 (y.kind : Nat)) := cell_of ITB.out 1 _ rfl;have k2 : (((y.kind : Nat) : Int) == 2) = false := by rw [beq_eq_false_iff_ne]; omega
     have ITC : Hid (WB.heap[xb]? = some (.cells (icC y y.size F q (q + y.data) qL (.slice aM nM cM) (.slice aP P.length cP)) 36)) := by
      show _ = _;rw [HK2.out hk];exact ITB.out
     have MPC : MpN w (.slice aM nM cM) y.map WB := MPA.out.item (HFB.out) (fun k hk => hk) ITA2.out;obtain ⟨W5, e5, u1, u2, HBX⟩ := HEND.out WB ETB.out RMB.out MPC;have U1 := tHid u1;have U2 := tHid u2;have E5 := tHid e5;clear hk MPC u1 u2 e5 HEND
     go_wp2_with (first
      | (refine wpList_load_row rfl 36 _ rfl xb (by first | rfl | simp [Act.eval]) 36 _ (0, 0) _ ITC.out Tryz.underlying36 rfl icI ?_)
      | (refine wpList_store_row rfl 36 _ _ rfl ob (icC y y.size F q (q + y.data) qL (.slice aM nM cM) (.slice aP P.length cP)) (by first | rfl | simp [Act.eval]) (by first | rfl | simp [Act.eval]) 36 _ U1.out icI rfl U2.out ?_; rw [E5.out]))
     (try simp only [Exit.inBlock, Exit.then])
     exact HBX.out _ rfl
  ·rw [hds] at HHD;have HDS := tHid hds;clear hds;obtain ⟨h6, h8⟩ := HH6.out W4 ET4.out.hd;have t0 : W4.cell? ⟨sb, 0, none⟩ = some (.slice aP P.length cP) := cell_of ET4.out.sy 0 _ rfl;have t1 : W4.cell? ⟨sb, 1, none⟩ = some (.int .i64 (q : Nat)) := cell_of ET4.out.sy 1 _ rfl
   go_wp2_with fail
   go_at_call 54
   with_reducible refine (HNUM.out _ ET4.out).mono ?_
   rintro e w5 (⟨h0, rfl, K5⟩ | ⟨h0, rfl, K5⟩)
   ·have HZ : Q (gvR (q : Nat) (NB.2 : Nat)) w5 := by
     rw [HQ.out, if_pos h0];exact ⟨by rw [Nat.add_zero], (ET4.out.keep K5 (fun _ h => h.elim)).fr, (RM4.out.nw K5).alv⟩
    have HZ' := tHid HZ;clear HZ
    go_wp2_with fail
    exact ⟨rfl, HZ'.out⟩
   have ET5 := tHid (ET4.out.keep K5 (fun _ h => h.elim));have RM5 := tHid (RM4.out.nw K5);have IT5 := tHid (Nw.heap K5 IT4.out);have HN0 := tHid h0;have y8 := (HH6.out w5 ET5.out.hd).2;clear h0 K5 ET4 RM4 IT4 h6 h8 t0 t1;obtain ⟨W6, hW6⟩ : ∃ W6, W6 = w5 := ⟨_, rfl⟩;have IT6 : Hid (W6.heap[xb]? = some (.cells (niC h F q 0 (.slice aP P.length cP)) 36)) := by rw [hW6]; exact IT5.out
   have ET6 := tHid ET5.out;have RM6 := tHid RM5.out;rw [← hW6] at ET6 RM6;go_upto_region 8 with (first
    | (go_at_call 55; (with_reducible refine (HHD.out _).mono ?_); rintro e w6 ⟨rfl, rfl⟩))
   (try rw [← hW6])
   clear hW6 y8 IT5 ET5 RM5;have t0 : W6.cell? ⟨sb, 0, none⟩ = some (.slice aP P.length cP) := cell_of ET6.out.sy 0 _ rfl;have t1 : W6.cell? ⟨sb, 1, none⟩ = some (.int .i64 (q : Nat)) := cell_of ET6.out.sy 1 _ rfl
   go_wp2_with (first
    | (refine wpList_load_mid rfl 62 _ rfl hb 0 (by first | rfl | simp [Act.eval]) CHh _ (HRG.out _ ET6.out.hd) Tryz.underlying62 rfl HCHI.out ?_)
    | (refine wpList_load_row rfl 85 _ rfl ab (by first | rfl | simp [Act.eval]) 85 _ (0, 0) _ ET6.out.ah Tryz.underlying85 rfl HAI.out ?_))
   go_at_call 56
   with_reducible refine (HSE.out _ ET6.out).mono ?_
   rintro e w7 ⟨K7, (⟨h1, rfl⟩ | ⟨h1, rfl⟩)⟩
   ·have HZ : Q (gvR (q : Nat) (mtE h P : Nat)) w7 := by
     rw [HQ.out, if_neg (fun hne => hne HN0.out), if_pos h1];exact ⟨by rw [Nat.add_zero], (ET6.out.keep K7 (fun _ h => h.elim)).fr, (RM6.out.nw K7).alv⟩
    have HZ' := tHid HZ;clear HZ;generalize mtE h P = EE at *
    go_wp2_with fail
    exact ⟨rfl, HZ'.out⟩
   rw [HENC.out];have HN1 := tHid h1;have ET7 := tHid (ET6.out.keep K7 (fun _ h => h.elim));have RM7 := tHid (RM6.out.nw K7);have IT7 := tHid (Nw.heap K7 IT6.out);clear h1 K7 ET6 RM6 IT6 t0 t1;obtain ⟨W8, hW8⟩ : ∃ W8, w7.setCells xb 0 (enC xo 0).toList = W8 := ⟨_, rfl⟩;have f8 : Fr (fun k => k = xb) w7 W8 := by rw [← hW8]; exact fr_setCells xb _ 0 w7 (Fr.refl _ _)
   have IT8 : Hid (W8.heap[xb]? = some (.cells (icC xo 0 F q 0 0 (.slice none 0 0) (.slice aP P.length cP)) 36)) := by
    rw [← hW8, HIC.out F, if_neg (by rw [HDS.out]; simp)];exact sc_row12 IT7.out
   have ET8 := tHid (ET7.out.keep f8 (fun k hk => .inr hk));have RM8 := tHid (RM7.out.keep f8 (by have := ET7.out.le; omega) (fun k hk => .inr (by rw [hk]; exact ET7.out.le.1)));have HTH : Hid (w7.there xb 0 (enC xo 0).size) := there_row IT7.out 12 (by show 12 ≤ 22; omega);have HEI : Hid ((Tryz.prog.info? 32).map (·.size) = some (enC xo 0).size) := by
    have q1 : (Tryz.prog.info? 32).map (·.size) = some 12 := by kernel_rfl
    exact q1
   have HEO : Hid ((enC xo 0).all (·.oneCell') = true) := by show _ = _; simp [enC, Value.oneCell']
   have HW8 := tHid hW8;clear hW8 f8;generalize hEX : enC xo 0 = EX at *;clear hEX;go_upto_region 9 with (first
    | (refine wpList_store_mid rfl 32 _ _ rfl xb 0 EX (by first | rfl | simp [Act.eval]) (by first | rfl | simp [Act.eval]) HTH.out HEI.out HEO.out ?_; rw [HW8.out]))
   clear HTH HEI HEO HW8 IT7 ET7 RM7;obtain ⟨_, r1, z1, _, _⟩ := RM8.out.cells;obtain ⟨q5, hq5⟩ : ∃ q5 : Nat, q5 = q + 512 := ⟨_, rfl⟩;have hqi : (q : Int) + 512 = (q5 : Int) := by omega
   obtain ⟨W9, hW9⟩ : ∃ W9, W8.setCell ⟨rb, 1, none⟩ (.int .i64 (q5 : Nat)) = W9 := ⟨_, rfl⟩;have RM9 : Hid (Rm (fun k => k = rb ∨ w.heap.size ≤ k) rb va vc b (q + 512) vG G W9) := by
    rw [← hW9];exact (RM8.out.go (q + 512) HQL.out (q5 : Nat) (by rw [hq5])).1
   have f9 : Fr (fun k => k = rb) W8 W9 := by rw [← hW9]; exact (Fr.refl _ _).setCell _ _ (.inl rfl)
   have ET9 := tHid (ET8.out.keep f9 (fun k hk => .inl hk));have IT9 := tHid (cell_kept f9 IT8.out (by have := ET8.out.le; omega));have hqw : IntKind.i64.wrap (q5 : Int) = (q5 : Int) := by rw [IntKind.wrap_i64]; have := RM8.out.bl; have := HQL.out; omega
   clear hq5;go_upto_region 10 with fail
   (try rw [hW9])
   clear hW9 f9 IT8 ET8 RM8 r1 z1 hqi hqw;have t0 : W9.cell? ⟨sb, 0, none⟩ = some (.slice aP P.length cP) := cell_of ET9.out.sy 0 _ rfl;have t1 : W9.cell? ⟨sb, 1, none⟩ = some (.int .i64 (q : Nat)) := cell_of ET9.out.sy 1 _ rfl
   go_wp2_with (first
    | (refine wpList_load_row rfl 89 _ rfl hb (by first | rfl | simp [Act.eval]) 89 _ (0, 0) _ ET9.out.hd Tryz.underlying89 rfl HHI.out ?_))
   go_at_call 57
   with_reducible refine (HBO2.out _ F ET9.out RM9.out IT9.out).mono ?_
   intro e wA HA;cases OB with
   | fin => exact HA.elim
   | on L g G' A' => exact HA.elim
   | bad pl E =>
    obtain ⟨rfl, KA⟩ := HA;have HZ : Q (gvR ((q + pl : Nat) : Int) (E : Nat)) wA := by
     rw [HQ.out, if_neg (fun hne => hne HN0.out), if_neg (fun hne => hne HN1.out)];exact ⟨rfl, (ET9.out.keep KA.1 (fun k hk => hk)).fr, KA.2⟩
    have HZ' := tHid HZ;clear HZ;generalize ((q + pl : Nat) : Int) = PL at *
    go_wp2_with fail
    exact ⟨rfl, HZ'.out⟩
   | got y L =>
    obtain ⟨vM, wh, rfl, hk1, hk2, KA⟩ := HA;obtain ⟨KA1, RMA', ITA', MPA'⟩ := KA.out;have ETA := tHid (ET9.out.keep KA1 (fun k hk => hk));have MPA'' : MpN w vM y.map wA := MPA'.base (ge_of ET9.out.fr);have RMA := tHid RMA';have ITA := tHid ITA';have ITA2 := tHid ITA';obtain ⟨⟨aM, nM, cM, rfl⟩, _⟩ := MPA';have MPA := tHid MPA'';have HK1 := tHid hk1;have HK2 := tHid hk2;clear hk1 hk2 KA KA1 RMA' ITA' MPA'' t0 t1 RM9 ET9 IT9;have r1 : wA.cell? ⟨rb, 1, none⟩ = some (.int .i64 ((q + L : Nat) : Int)) := RMA.out.cells.2.1;obtain ⟨qL, hqL⟩ : ∃ qL : Nat, qL = q + L := ⟨_, rfl⟩;rw [← hqL] at r1
    have c17 : wA.cell? ⟨xb, 17, none⟩ = some (.int .i64 (0 : Nat)) := cell_of ITA.out 17 _ rfl;have f17 := frz_of ITA.out 17;obtain ⟨WB, hWB⟩ : ∃ WB, wA.setCell ⟨xb, 17, none⟩ (.int .i64 (qL : Nat)) = WB := ⟨_, rfl⟩;have fB : Fr (fun k => k = xb) wA WB := by rw [← hWB]; exact (Fr.refl _ _).setCell _ _ (.inl rfl)
    have ITB : Hid (WB.heap[xb]? = some (.cells (icC y 0 F q (q + y.data) qL (.slice aM nM cM) (.slice aP P.length cP)) 36)) := by rw [← hWB]; exact row_setN ITA.out 17 _
    have ETB := tHid (ETA.out.keep fB (fun k hk => .inr hk));have RMB := tHid (RMA.out.keep fB (by have := ETA.out.le; omega) (fun k hk => .inr (by rw [hk]; exact ETA.out.le.1)));have HQE := tHid hqL;have HFB := tHid fB;clear hqL;go_upto_region 12 with fail
    (try rw [hWB])
    have HEND : Hid (∀ V, Et w rb xb hb ab ob sb HC AC ziC (.slice aP P.length cP) P q V → Rm (fun k => k = rb ∨ w.heap.size ≤ k) rb va vc b (q + L) vG G V → MpN w (.slice aM nM cM) y.map V → ∃ W5, V.setRow ob (icC y y.size F q (q + y.data) qL (.slice aM nM cM) (.slice aP P.length cP)) = W5 ∧ V.heap[ob]? = some (.cells ziC 36) ∧ (icC y y.size F q (q + y.data) qL (.slice aM nM cM) (.slice aP P.length cP)).all (·.oneCell') = true ∧ Hid (∀ tmps : Array Value, tmps.getD 6 undef = .pointer (some ⟨ob, 0, none⟩) → bodyPost Tryz.prog Tryz.f37 Q .ret ⟨tmps, []⟩ W5)) := fun V h1 h2 h3 => by
     refine ⟨_, rfl, h1.ou, by simp [icC, Value.oneCell'], fun tmps g4 => ?_⟩;refine bodyPost_ret (results_cell_row (P := Tryz.prog) (p := 6) (ty := 36) rfl _ _ ob 36 _ (0, 0) _ g4 (setRow_heap _ _ _ _ 36 _ h1.ou) Tryz.underlying36 rfl icI) rfl ?_;have fo : Fr (fun k => k = ob) V (V.setRow ob (icC y y.size F q (q + y.data) qL (.slice aM nM cM) (.slice aP P.length cP))) := (Fr.refl _ _).setRow ob _ (.inl rfl);have hobw : w.heap.size ≤ ob := HOBW.out;rw [HQ.out, if_neg (fun hne => hne HN0.out), if_neg (fun hne => hne HN1.out)];obtain ⟨og, p1, p2⟩ := h1.pn;have hoX : ob ≠ xb := h1.ne.2.2.2.1
     refine ⟨.slice aM nM cM, .slice aP P.length cP, by rw [HQE.out], h1.fr.then fo (fun i hi => .inr (by omega)), RL.step (h2.keep fo (by have := h1.le; omega) (fun k hk => .inr (by omega))) ?_, ?_, ⟨og, ?_, fun g hg => (p2 g hg).1⟩, ⟨_, _, _, rfl⟩⟩
     ·have := ge_of h1.fr;have := ge_of fo;omega
     ·obtain ⟨m1, om, m2, m3⟩ := h3;exact ⟨m1, om, m2.kept fo (fun g hg hgo => HOBM.out V om y.map aM nM cM h1 m2 m3 g hg hgo), m3⟩
     ·rw [HOBP.out y L rfl];exact p1.kept fo (fun g hg hgo => HOBN.out V og h1 p1 p2 g hg hgo)
    have HRB : Hid (WB.heap[rb]? = some (.cells #[.slice va b.length vc, .int .i64 ((q + L : Nat) : Int), vG, .int .i64 0] 51)) := RMB.out.row;clear hWB fB ITA ETA RMA r1 c17 f17 HQ HOBW HOBM HOBN HQE;by_cases hk : y.kind = 2
    ·have k1 : WB.cell? ⟨xb, 1, none⟩ = some (.int .i64 (2 : Nat)) := by
      have := cell_of ITB.out 1 (.int .i64 (y.kind : Nat)) rfl;rw [hk] at this;exact this
     have c10 : WB.cell? ⟨xb, 10, none⟩ = some (.int .i64 0) := cell_of ITB.out 10 _ rfl;have f10 := frz_of ITB.out 10;obtain ⟨WC, hWC⟩ : ∃ WC, WB.setCell ⟨xb, 10, none⟩ (.int .i64 wh) = WC := ⟨_, rfl⟩;have fC : Fr (fun k => k = xb) WB WC := by rw [← hWC]; exact (Fr.refl _ _).setCell _ _ (.inl rfl)
     have ITC : Hid (WC.heap[xb]? = some (.cells (icC y y.size F q (q + y.data) qL (.slice aM nM cM) (.slice aP P.length cP)) 36)) := by
      rw [← hWC, HK1.out hk];exact row_setN ITB.out 10 _
     have ETC := ETB.out.keep fC (fun k hk => .inr hk);have RMC := RMB.out.keep fC (by have := ETB.out.le; omega) (fun k hk => .inr (by rw [hk]; exact ETB.out.le.1));have MPC : MpN w (.slice aM nM cM) y.map WC := (MPA.out.item (HFB.out) (fun k hk => hk) ITA2.out).item fC (fun k hk => hk) ITB.out;obtain ⟨W5, e5, u1, u2, HBX⟩ := HEND.out WC ETC RMC MPC;have U1 := tHid u1;have U2 := tHid u2;have E5 := tHid e5;clear hk fC ETC RMC MPC u1 u2 e5 HEND
     go_wp2_with (first
      | (refine wpList_load_row rfl 36 _ rfl xb (by first | rfl | simp [Act.eval]) 36 _ (0, 0) _ ITC.out Tryz.underlying36 rfl icI ?_)
      | (refine wpList_store_row rfl 36 _ _ rfl ob (icC y y.size F q (q + y.data) qL (.slice aM nM cM) (.slice aP P.length cP)) (by first | rfl | simp [Act.eval]) (by first | rfl | simp [Act.eval]) 36 _ U1.out icI rfl U2.out ?_; rw [E5.out]))
     (try simp only [Exit.inBlock, Exit.then])
     exact HBX.out _ rfl
    ·have k1 : WB.cell? ⟨xb, 1, none⟩ = some (.int .i64 (y.kind : Nat)) := cell_of ITB.out 1 _ rfl;have k2 : (((y.kind : Nat) : Int) == 2) = false := by rw [beq_eq_false_iff_ne]; omega
     have ITC : Hid (WB.heap[xb]? = some (.cells (icC y y.size F q (q + y.data) qL (.slice aM nM cM) (.slice aP P.length cP)) 36)) := by
      show _ = _;rw [HK2.out hk];exact ITB.out
     have MPC : MpN w (.slice aM nM cM) y.map WB := MPA.out.item (HFB.out) (fun k hk => hk) ITA2.out;obtain ⟨W5, e5, u1, u2, HBX⟩ := HEND.out WB ETB.out RMB.out MPC;have U1 := tHid u1;have U2 := tHid u2;have E5 := tHid e5;clear hk MPC u1 u2 e5 HEND
     go_wp2_with (first
      | (refine wpList_load_row rfl 36 _ rfl xb (by first | rfl | simp [Act.eval]) 36 _ (0, 0) _ ITC.out Tryz.underlying36 rfl icI ?_)
      | (refine wpList_store_row rfl 36 _ _ rfl ob (icC y y.size F q (q + y.data) qL (.slice aM nM cM) (.slice aP P.length cP)) (by first | rfl | simp [Act.eval]) (by first | rfl | simp [Act.eval]) 36 _ U1.out icI rfl U2.out ?_; rw [E5.out]))
     (try simp only [Exit.inBlock, Exit.then])
     exact HBX.out _ rfl
end Go.Proofs.YtlenihpbhlfcoaaGreatDoor
