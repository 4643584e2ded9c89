import Derived.Test.YtlenihpbhlfcoaaGreatDoorWcb
import Derived.Test.YtlenihpbhlfcoaaGreatDoorWbx
set_option maxHeartbeats 8000000
set_option maxRecDepth 100000
set_option linter.unusedSimpArgs false
set_option linter.unusedVariables false
namespace Go.Proofs.YtlenihpbhlfcoaaGreatDoor
def SubG (g G : List Pr) : Prop := ∀ k v, fndV g k = some v → fndV G k = some v
theorem sub_nil {g : List Pr} (h : SubG g []) : g = [] := by
 cases hg : g with
 | nil => rfl
 | cons x r =>
  have hs : ∀ (l : List Pr) (k : Bs), (∃ x ∈ l, x.1 = k) → fndV l k ≠ none := by
   intro l k hx hn;obtain ⟨x, hx, he⟩ := hx;have : ∀ (l : List Pr) (a : Option Bs), l.foldl (fun a x => if x.1 = k then some x.2 else a) a = none → a = none ∧ ∀ x ∈ l, x.1 ≠ k := by
    intro l
    induction l with
    | nil => intro a h; exact ⟨h, fun x hx => by cases hx⟩
    | cons y r ih =>
     intro a h;rw [List.foldl_cons] at h;obtain ⟨i1, i2⟩ := ih _ h;by_cases hy : y.1 = k
     ·rw [if_pos hy] at i1; cases i1
     ·rw [if_neg hy] at i1;refine ⟨i1, fun z hz => ?_⟩;rcases List.mem_cons.1 hz with rfl | hz
      ·exact hy
      ·exact i2 z hz
   exact (this l none hn).2 x hx he
  have h1 := hs g x.1 ⟨x, by rw [hg]; exact List.mem_cons_self, rfl⟩;cases hf : fndV g x.1 with
  | none => exact absurd hf h1
  | some v => have := h _ _ hf; cases this
theorem sub_merge {g G : List Pr} (h : SubG g G) (l : List Pr) : SubG (mergeV g l) (mergeV G l) := fun k v hv => by
 rw [fnd_merge] at hv ⊢;refine ⟨?_, hv.2⟩;have h1 := hv.1;cases hl : fndV l k with
 | some u => rw [hl] at h1; exact h1
 | none => rw [hl] at h1; exact h k v h1
theorem nodup_len {α : Type} [DecidableEq α] : ∀ (l1 l2 : List α), l1.Nodup → (∀ x ∈ l1, x ∈ l2) → l1.length ≤ l2.length
 | [], _, _, _ => Nat.zero_le _
 | x :: r, l2, h1, h2 => by
  obtain ⟨hx, hr⟩ := List.nodup_cons.1 h1;have hm := h2 x List.mem_cons_self;have := nodup_len r (l2.erase x) hr (fun y hy => by
   refine (List.mem_erase_of_ne (fun e : y = x => hx (by rw [← e]; exact hy))).2 (h2 y (List.mem_cons_of_mem _ hy)))
  rw [List.length_erase_of_mem hm] at this;have := List.length_pos_of_mem hm;rw [List.length_cons];omega
theorem rise_nodup {l : List Pr} (h : Rise l) : l.Nodup := h.imp (fun {a b} hlt e => by subst e; exact lt_ir _ hlt)
theorem sub_len {g G : List Pr} (hg : Rise g) (hG : Rise G) (h : SubG g G) : g.length ≤ G.length := by
 haveI : DecidableEq Pr := fun a b => Classical.propDecidable (a = b)
 exact nodup_len g G (rise_nodup hg) (fun x hx => (fnd_rise G hG x.1 x.2).1 (h _ _ ((fnd_rise g hg x.1 x.2).2 hx)))
theorem psR_sub {s : List By} {h : Hr} {g G : List Pr} {A : Ah} {L : Nat} {gl : Bool} {G' : List Pr} {A' : Ah} (hs : SubG g G) (hp : psR s h G A = .on L gl G' A') : ∃ g', psR s h g A = .on L gl g' A' ∧ SubG g' G' := by
 unfold psR at hp;split at hp
 ·cases hp
 rename_i hz;cases hk : tkR s 512 h.size.toNat with
 | none => rw [hk] at hp; cases hp
 | some y =>
  obtain ⟨d, M⟩ := y;rw [hk] at hp;simp only at hp;unfold psR;rw [if_neg hz, hk];simp only;split at hp
  ·rename_i ht;split at hp
   ·cases hp
   rename_i h1;split at hp
   ·cases hp
   rename_i h2;injection hp with e1 e2 e3 e4;subst e1 e2 e3 e4;have := sub_len (merge_rise g (prs d 0 []).1) (merge_rise G (prs d 0 []).1) (sub_merge hs _);exact ⟨_, by rw [if_pos ht, if_neg h1, if_neg (by omega)], sub_merge hs _⟩
  ·rename_i ht;split at hp
   ·rename_i hx;split at hp
    ·cases hp
    rename_i h1;split at hp
    ·cases hp
    rename_i h2;injection hp with e1 e2 e3 e4;subst e1 e2 e3 e4;exact ⟨g, by rw [if_neg ht, if_pos hx, if_neg h1, if_neg h2], hs⟩
   ·rename_i hx;split at hp
    ·rename_i hn;injection hp with e1 e2 e3 e4;subst e1 e2 e3 e4;exact ⟨g, by rw [if_neg ht, if_neg hx, if_pos hn], hs⟩
    ·rename_i hn;injection hp with e1 e2 e3 e4;subst e1 e2 e3 e4;exact ⟨g, by rw [if_neg ht, if_neg hx, if_neg hn], hs⟩
theorem cor_sub {s : List By} {g G : List Pr} {A : Ah} {L : Nat} {gl : Bool} {G' : List Pr} {A' : Ah} (hs : SubG g G) (hp : cor s G A = .on L gl G' A') : ∃ g', cor s g A = .on L gl g' A' ∧ SubG g' G' := by
 unfold cor at hp;split at hp
 ·cases hp
 rename_i a1;split at hp
 ·cases hp
 rename_i a2;split at hp
 ·cases hp
 rename_i a3;split at hp
 ·cases hp
 rename_i a4;split at hp
 ·rename_i a5;obtain ⟨g', q1, q2⟩ := psR_sub hs hp;refine ⟨g', ?_, q2⟩;unfold cor;rw [if_neg a1, if_neg a2, if_neg a3, if_neg a4, if_pos a5];exact q1
 ·exact absurd hp enR_not
theorem cor_g {s : List By} {G : List Pr} {A : Ah} {L : Nat} {G2 : List Pr} {A2 : Ah} (hc : cor s G A = .on L true G2 A2) : A2 = A := by
 unfold cor at hc;split at hc
 ·cases hc
 split at hc
 ·cases hc
 split at hc
 ·cases hc
 split at hc
 ·cases hc
 split at hc
 ·unfold psR at hc;split at hc
  ·cases hc
  split at hc
  ·cases hc
  ·split at hc
   ·split at hc
    ·cases hc
    ·split at hc
     ·cases hc
     ·injection hc with h1 h2 h3 h4; exact h4.symm
   ·repeat' split at hc
    all_goals first
     | (cases hc; done)
     | (injection hc with h1 h2 h3 h4; cases h2)
 ·exact absurd hc enR_not
theorem cut_take {b : List By} {f p L a : Nat} (hf : f ≤ p) (ha : p + L ≤ a) : (((b.drop f).take (a - f)).drop (p - f)).take L = (b.drop p).take L := by
 rw [List.drop_take, List.take_take, List.drop_drop, show f + (p - f) = p by omega, Nat.min_eq_left (by omega)]
theorem cut_len {b : List By} {f a : Nat} (ha : a ≤ b.length) : ((b.drop f).take (a - f)).length = a - f := by
 rw [List.length_take, List.length_drop]; omega
theorem plI_sh (x0 : It) {f p : Nat} (hf : f ≤ p) : plI x0 p (some f) = shI f (plI x0 (p - f) (some 0)) := by
 unfold plI shI;simp only [Option.getD_some];rw [show f + (p - f) = p by omega, show f + (p - f + x0.data) = p + x0.data by omega, show f + (p - f + x0.next) = p + x0.next by omega, Nat.add_zero]
theorem nx_cut {b : List By} : ∀ (k : Nat) {p : Nat} {G : List Pr} {A : Ah} {f : Nat} {x : It} {a : Nat} {g : List Pr}, b.length - p ≤ k → f ≤ p → SubG g G → nx b p G A (some f) = .more x a [] → ∃ y, nx ((b.drop f).take (a - f)) (p - f) g A (some 0) = .more y (a - f) [] ∧ x = shI f y ∧ x.frm = f := by
 intro k
 induction k with
 | zero =>
  intro p G A f x a g hk hf hs h;have := nx_end h;omega
 | succ k ih =>
  intro p G A f x a g hk hf hs h;have he := nx_end h;have hl := cut_len (b := b) (f := f) he.2.1;cases hc : cor (b.drop p) G A with
  | fin => rw [nx_fin hc] at h; cases h
  | bad q e => rw [nx_bad hc] at h; cases h
  | got x0 L =>
   obtain ⟨l1, l2, l3, l4⟩ := cor_got hc;rw [nx_got hc] at h;injection h with h1 h2 h3;subst h3;have hg := sub_nil hs;subst hg;have hc2 := l4 (((b.drop f).take (a - f)).drop (p - f)) (by rw [List.length_drop, hl]; omega) (cut_take hf (by omega));refine ⟨_, ?_, h1 ▸ plI_sh x0 hf, by rw [← h1]; rfl⟩;rw [nx_got hc2];congr 1;omega
  | on L gl G2 A2 =>
   obtain ⟨l1, l2, l3, _⟩ := cor_on hc;rw [List.length_drop] at l3;rw [nx_on hc] at h;have he2 := nx_end h;obtain ⟨g2, q1, q2⟩ := cor_sub hs hc;obtain ⟨_, _, _, m4⟩ := cor_on q1;have hc2 := m4 (((b.drop f).take (a - f)).drop (p - f)) (by rw [List.length_drop, hl]; omega) (cut_take hf (by omega));have h' : nx b (p + L) G2 A2 (some f) = .more x a [] := by rw [← h]; cases gl <;> rfl
   obtain ⟨y, r1, r2, r3⟩ := ih (by omega) (by omega) q2 h';refine ⟨y, ?_, r2, r3⟩;rw [nx_on hc2, ← r1, show p - f + L = p + L - f by omega];cases gl <;> rfl
theorem nx_slice {b : List By} : ∀ (k : Nat) {p : Nat} {G : List Pr} {x : It} {a : Nat}, b.length - p ≤ k → nx b p G ah0 none = .more x a [] → ∃ y, nx ((b.drop x.frm).take (a - x.frm)) 0 [] ah0 none = .more y (a - x.frm) [] ∧ x = shI x.frm y ∧ p ≤ x.frm ∧ x.frm + 512 ≤ a ∧ a ≤ b.length := by
 intro k
 induction k with
 | zero =>
  intro p G x a hk h;have := nx_end h;omega
 | succ k ih =>
  intro p G x a hk h;have he := nx_end h;cases hc : cor (b.drop p) G ah0 with
  | fin => rw [nx_fin hc] at h; cases h
  | bad q e => rw [nx_bad hc] at h; cases h
  | got x0 L =>
   obtain ⟨l1, l2, l3, l4⟩ := cor_got hc;rw [nx_got hc] at h;injection h with h1 h2 h3;subst h3;have hfr : x.frm = p := by rw [← h1]; rfl
   rw [hfr];have hl := cut_len (b := b) (f := p) he.2.1;have hc2 := l4 (((b.drop p).take (a - p)).drop (p - p)) (by rw [List.length_drop, hl]; omega) (cut_take (Nat.le_refl _) (by omega));rw [Nat.sub_self] at hc2;refine ⟨_, by rw [nx_got hc2]; congr 1; omega, ?_, Nat.le_refl _, he.1, he.2.1⟩;rw [← h1];unfold plI shI;simp
  | on L gl G2 A2 =>
   obtain ⟨l1, l2, l3, _⟩ := cor_on hc;rw [List.length_drop] at l3;rw [nx_on hc] at h;cases gl with
   | true =>
    have hA := cor_g hc;subst hA;obtain ⟨y, r1, r2, r3, r4, r5⟩ := ih (by omega) h;exact ⟨y, r1, r2, by omega, r4, r5⟩
   | false =>
    have h' : nx b (p + L) G2 A2 (some p) = .more x a [] := by rw [← h]; rfl
    have he2 := nx_end h';obtain ⟨g2, q1, q2⟩ := cor_sub (g := []) (fun k v hv => by cases hv) hc;obtain ⟨_, _, _, m4⟩ := cor_on q1;have hl := cut_len (b := b) (f := p) he.2.1;have hc2 := m4 (((b.drop p).take (a - p)).drop (p - p)) (by rw [List.length_drop, hl]; omega) (cut_take (Nat.le_refl _) (by omega));rw [Nat.sub_self] at hc2;obtain ⟨y, r1, r2, r3⟩ := nx_cut _ (Nat.le_refl _) (by omega) q2 h';rw [r3];refine ⟨y, ?_, r2, Nat.le_refl _, he.1, he.2.1⟩;rw [nx_on hc2, ← r1, show p + L - p = 0 + L by omega];rfl
theorem rd_slice {b : List By} {p : Nat} {G : List Pr} {x : It} {a : Nat} (h : nx b p G ah0 none = .more x a []) : ∃ y, rdR ((b.drop x.frm).take (a - x.frm)) 0 [] = ([y], a - x.frm, 0, []) ∧ x = shI x.frm y ∧ p ≤ x.frm ∧ x.frm + 512 ≤ a ∧ a ≤ b.length := by
 obtain ⟨y, h1, h2, h3, h4, h5⟩ := nx_slice _ (Nat.le_refl _) h;refine ⟨y, ?_, h2, h3, h4, h5⟩;have hl := cut_len (b := b) (f := x.frm) h5;have hc : cor (((b.drop x.frm).take (a - x.frm)).drop (a - x.frm)) [] ah0 = .fin := by rw [List.drop_eq_nil_of_le (by omega)]; rfl
 rw [rdR_more h1, rdR_fin (nx_fin hc)]
end Go.Proofs.YtlenihpbhlfcoaaGreatDoor
namespace Go.Proofs.YtlenihpbhlfcoaaGreatDoor
open Go
section
variable {P : Program} {ops : Array Oper} {Q : Exit → Act → World → Prop} {md : Region.Mode} {S : Array Bool → World → Prop}
def wpAnyG (P : Program) (md : Region.Mode) (ops : Array Oper) (Q : Exit → Act → World → Prop) (S : Array Bool → World → Prop) : Nat → Array Bool → Act → World → Prop
 | 0, listed, a, w => Region.ready md ops listed = [] ∧ Q .normal a w
 | fuel + 1, listed, a, w =>
  (Region.ready md ops listed = [] → Q .normal a w) ∧
  ∀ i ∈ Region.ready md ops listed, wpOp P ops Q i (fun a' w' => S (listed.setIfInBounds i true) w' ∧ wpAnyG P md ops Q S fuel (listed.setIfInBounds i true) a' w') a w
theorem wpAny_of_G : ∀ (fuel : Nat) (listed : Array Bool) (a : Act) (w : World), wpAnyG P md ops Q S fuel listed a w → wpAny P md ops Q fuel listed a w
 | 0, _, _, _, h => h
 | fuel + 1, _, _, _, h => ⟨h.1, fun i hi => wpOp_mono (fun a' w' h' => wpAny_of_G fuel _ a' w' h'.2) (h.2 i hi)⟩
theorem wpAnyG_first {i : Nat} {oi : Oper} {v : Value} (G : Array Bool → Prop) (S0 : World → Prop)
  (hG : ∀ l j, G l → i ∈ Region.ready md ops l → j ∈ Region.ready md ops l → j ≠ i → G (l.setIfInBounds j true)) (hGS : ∀ l w, G l → S l w → S0 w) (hinv : ∀ l w, S (l.setIfInBounds i true) w ↔ S l w)
  (hi : ops[i]? = some oi) (hsel : ∀ (j : Nat) (o : Oper) cs b, ops[j]? = some o → o.op ≠ .select cs b)
  (hQ : ∀ c a w, Q (.panic c) (a.put oi.dst v) w → Q (.panic c) a w) :
  ∀ (fuel : Nat) (listed : Array Bool) (a : Act) (w : World),
   (∀ j oj, ops[j]? = some oj → j ≠ i → listed.getD j true = false → (∀ e ∈ oj.after, Region.binds md e = true → e.on ≠ i) → oi.apart ops oj = true) →
   G listed → i ∈ Region.ready md ops listed → YieldsIf P ops S0 oi v a → S listed w →
   wpAnyG P md ops Q S fuel (listed.setIfInBounds i true) (a.put oi.dst v) w → wpAnyG P md ops Q S (fuel + 1) listed a w := by
 intro fuel
 induction fuel with
 | zero =>
  intro listed a w _ hg hr hy hS H;refine ⟨fun h => (by rw [h] at hr; cases hr), fun j hj => ?_⟩;by_cases hji : j = i
  ·subst hji; exact hy.wpOp hi (hGS _ _ hg hS) ⟨(hinv _ _).2 hS, H⟩
  ·have := ready_mono hj hji;rw [H.1] at this;cases this
 | succ fuel ih =>
  intro listed a w hfree hg hr hy hS H;refine ⟨fun h => (by rw [h] at hr; cases hr), fun j hj => ?_⟩;by_cases hji : j = i
  ·subst hji; exact hy.wpOp hi (hGS _ _ hg hS) ⟨(hinv _ _).2 hS, H⟩
  ·have h1 := H.2 j (ready_mono hj hji);obtain ⟨hjun, oj, hoj, hall⟩ := mem_ready.1 hj;have hnot : ∀ e ∈ oj.after, Region.binds md e = true → e.on ≠ i := fun e he hb heq => by
    have h1 := hall e he hb;have h0 := (mem_ready.1 hr).1;rw [heq] at h1;rcases Nat.lt_or_ge i listed.size with h' | h'
    ·simp [h'] at h0 h1; rw [h0] at h1; cases h1
    ·simp [Array.getElem?_eq_none h'] at h1
   have h2 := wpOp_putIf hoj (hfree j oj hoj hji hjun hnot) (fun cs b => hsel i oi cs b hi) (fun cs b => hsel j oj cs b hoj) hQ hy h1;have hfree' : ∀ k ok, ops[k]? = some ok → k ≠ i → (listed.setIfInBounds j true).getD k true = false →
     (∀ e ∈ ok.after, Region.binds md e = true → e.on ≠ i) → oi.apart ops ok = true := fun k ok hk hki hun hno => by
    refine hfree k ok hk hki ?_ hno;by_cases hjk : j = k
    ·subst hjk; exact hjun
    ·rw [getD_set_ne true hjk] at hun; exact hun
   refine wpOp_mono (fun a' w' h3 => ?_) h2;obtain ⟨k1, k2, k3⟩ := h3;rw [Array.setIfInBounds_comm _ _ (Ne.symm hji)] at k2 k3;have k2' := (hinv _ _).1 k2;exact ⟨k2', ih (listed.setIfInBounds j true) a' w' hfree' (hG _ _ hg hr hj hji) (ready_mono hr (Ne.symm hji)) k1 k2' k3⟩
def SgG (g : Nat) (B C : World → Prop) : Array Bool → World → Prop := fun l w => B w ∧ (l.getD g true = false → C w)
theorem SgG.inv {g i : Nat} {B C : World → Prop} (h : i ≠ g) (l : Array Bool) (w : World) : SgG g B C (l.setIfInBounds i true) w ↔ SgG g B C l w := by
 unfold SgG;rw [getD_set_ne true h]
variable {g i : Nat} {B C : World → Prop} {oi : Oper} {v : Value} {fuel : Nat} {listed : Array Bool} {a : Act} {w : World}
def waitsB (md : Region.Mode) (ops : Array Oper) (g i : Nat) : Bool := match ops[g]? with | some o => o.after.any (fun e => Region.binds md e && e.on == i) | none => false
theorem takeC (hi : ops[i]? = some oi) (hv : ∀ w, C w → (execOp a.eval oi).run P w = .ok (.value v) w)
  (hC : C w) (hB : B w) (h : wpAnyG P md ops Q (SgG g B C) fuel (listed.setIfInBounds i true) (a.put oi.dst v) w)
  (hw : Region.wanted oi (yielded ops a.tmps) = true) (hs : Region.noSelect ops = true) (hf : Region.free md ops listed i = true) (hr : (Region.ready md ops listed).contains i = true)
  (hgw : waitsB md ops g i = true) (hgi : (i == g) = false) (hg : listed.getD g true = false)
  (hQ : ∀ c a w, Q (.panic c) (a.put oi.dst v) w → Q (.panic c) a w) : wpAnyG P md ops Q (SgG g B C) (fuel + 1) listed a w := by
 have hne : i ≠ g := by simpa using hgi
 refine wpAnyG_first (fun l => l.getD g true = false) C (fun l j hl h1 h2 h3 => ?_) (fun l w hl hS => hS.2 hl) (SgG.inv hne) hi (Region.noSelect_spec hs) hQ fuel listed a w (Region.free_spec hi hf) hg (by simpa using hr) (.inl ⟨hw, hv⟩) ⟨hB, fun _ => hC⟩ h;by_cases hjg : j = g
 ·subst hjg;exfalso;obtain ⟨_, o, ho, hall⟩ := mem_ready.1 h2;unfold waitsB at hgw;rw [ho] at hgw;obtain ⟨e, he, hb⟩ := Array.any_eq_true'.1 hgw;rw [Bool.and_eq_true] at hb;have h4 := hall e he hb.1;have h0 := (mem_ready.1 h1).1;rw [show e.on = i by simpa using hb.2] at h4;rcases Nat.lt_or_ge i l.size with h' | h'
  ·simp [h'] at h0 h4; rw [h0] at h4; cases h4
  ·simp [Array.getElem?_eq_none h'] at h4
 ·rw [getD_set_ne true hjg]; exact hl
theorem takeB (hi : ops[i]? = some oi) (hv : ∀ w, B w → (execOp a.eval oi).run P w = .ok (.value v) w)
  (hC : C w) (hB : B w) (h : wpAnyG P md ops Q (SgG g B C) fuel (listed.setIfInBounds i true) (a.put oi.dst v) w)
  (hw : Region.wanted oi (yielded ops a.tmps) = true) (hs : Region.noSelect ops = true) (hf : Region.free md ops listed i = true) (hr : (Region.ready md ops listed).contains i = true)
  (hgi : (i == g) = false)
  (hQ : ∀ c a w, Q (.panic c) (a.put oi.dst v) w → Q (.panic c) a w) : wpAnyG P md ops Q (SgG g B C) (fuel + 1) listed a w :=
 wpAnyG_first (fun _ => True) B (fun _ _ _ _ _ _ => trivial) (fun _ _ _ hS => hS.1) (SgG.inv (by simpa using hgi)) hi (Region.noSelect_spec hs) hQ fuel listed a w (Region.free_spec hi hf) trivial (by simpa using hr) (.inl ⟨hw, hv⟩) ⟨hB, fun _ => hC⟩ h
theorem takeA (hi : ops[i]? = some oi) (hv : ∀ w, B w → (execOp a.eval oi).run P w = .ok (.value v) w)
  (hB : B w) (h : wpAnyG P md ops Q (SgG g B C) fuel (listed.setIfInBounds i true) (a.put oi.dst v) w)
  (hw : Region.wanted oi (yielded ops a.tmps) = true) (hs : Region.noSelect ops = true) (hf : Region.free md ops listed i = true) (hr : (Region.ready md ops listed).contains i = true)
  (hgi : (i == g) = false) (hg : listed.getD g true = true)
  (hQ : ∀ c a w, Q (.panic c) (a.put oi.dst v) w → Q (.panic c) a w) : wpAnyG P md ops Q (SgG g B C) (fuel + 1) listed a w :=
 wpAnyG_first (fun _ => True) B (fun _ _ _ _ _ _ => trivial) (fun _ _ _ hS => hS.1) (SgG.inv (by simpa using hgi)) hi (Region.noSelect_spec hs) hQ fuel listed a w (Region.free_spec hi hf) trivial (by simpa using hr) (.inl ⟨hw, hv⟩) ⟨hB, fun h => by rw [hg] at h; cases h⟩ h
theorem storeG (ho : ops[i]? = some oi) (h : ∀ K : Act → World → Prop, Shut (∀ a w, B w → (B w → wpAnyG P md ops Q (SgG g B C) fuel (listed.setIfInBounds i true) a w) → K a w) → if Region.wanted oi (yielded ops a.tmps) = true then Oper.wp P oi a w K Q else K (a.put oi.dst undef) w)
  (hr : Region.ready md ops listed = [i]) (hg : (listed.setIfInBounds i true).getD g true = true) : wpAnyG P md ops Q (SgG g B C) (fuel + 1) listed a w := by
 refine ⟨(fun h0 => by rw [hr] at h0; cases h0), fun j hj => ?_⟩;rw [hr] at hj;obtain rfl : j = i := by simpa using hj
 exact wpOp_step ho (fun K' hK => h K' (fun a w hB hW => hK a w ⟨⟨hB, fun h => by rw [hg] at h; cases h⟩, hW hB⟩))
theorem doneG (hr : Region.ready md ops listed = []) (h : Q .normal a w) : ∀ fuel, wpAnyG P md ops Q S fuel listed a w
 | 0 => ⟨hr, h⟩
 | _ + 1 => ⟨fun _ => h, by rw [hr]; simp⟩
theorem startG {id : Nat} (hm : P.follows .mixedOrders = true) (h : wpAnyG P .any ops Q S ops.size (Array.replicate ops.size false) a w.drew) : (Code.region id ops true).wp P Q a w :=
 wp_region_any hm (wpAny_of_G _ _ _ _ h)
end
end Go.Proofs.YtlenihpbhlfcoaaGreatDoor
namespace Go.Proofs.YtlenihpbhlfcoaaGreatDoor
open Go.RowKit Go.Deep
structure TwJ (w : World) (rb : Nat) (va : Option Addr) (vc : Nat) (b : List By) (p : Nat) (vG : Value) (G : List Pr) (n : Nat) (V : World) : Prop where
 fr : Nw w V
 rl : RL rb va vc b p vG G V
 ok : OkG G
 gz : SlR RP (fun _ => False) vG G V
 le : w.heap.size ≤ rb
 eq : ∃ l : List It, l.length = n ∧ rdR b 0 [] = (l ++ (rdR b p G).1, (rdR b p G).2)
 ln : 512 * n ≤ p
variable {w V V1 V2 W : World} {rb : Nat} {va : Option Addr} {vc : Nat} {b : List By} {p : Nat} {vG : Value} {G : List Pr} {n : Nat}
theorem twJ_start (hN : Nw w V) (h : Rm (fun k => k = rb ∨ V.heap.size ≤ k) rb va vc b 0 (.slice none 0 0) [] V) (hle : w.heap.size ≤ rb) : TwJ w rb va vc b 0 (.slice none 0 0) [] 0 V :=
 ⟨hN, h, ⟨Nat.zero_le _, (fun x hx => by cases hx)⟩, .inl ⟨none, rfl, rfl⟩, hle, ⟨[], rfl, rfl⟩, Nat.zero_le _⟩
theorem TwJ.more (h : TwJ w rb va vc b p vG G n V) {x : It} {a : Nat} {G' : List Pr} {vG' : Value} (hc : nx b p G ah0 none = .more x a G') (f : Fr (fun k => k = rb) V V1) (r : RL rb va vc b a vG' G' V1) (ok : OkG G') (hz : SlR RP (fun _ => False) vG' G' V1) (n2 : Nw V1 V2) :
  TwJ w rb va vc b a vG' G' (n + 1) V2 := by
 obtain ⟨l, hl, e⟩ := h.eq;rw [rdR_more hc] at e;have hle := h.le;refine ⟨(h.fr.then f (fun i hi => .inr (by omega))).trans n2, RL.step (Rm.nw r n2) n2.size, ok, hz.nw n2, h.le, ⟨l ++ [x], by simp [hl], by rw [e, List.append_assoc]; rfl⟩, ?_⟩;have := (nx_end hc).1;have := h.ln;omega
theorem rd_plc {b : List By} : ∀ (k p : Nat) (G : List Pr), b.length - p ≤ k → ∀ x ∈ (rdR b p G).1, x.frm ≤ x.head ∧ x.head < x.data ∧ x.data ≤ x.next ∧ x.next ≤ b.length := by
 intro k
 induction k with
 | zero =>
  intro p G hk;cases hc : nx b p G ah0 none with
  | fin a G' => rw [rdR_fin hc]; intro x hx; cases hx
  | bad a e G' => rw [rdR_bad hc]; intro x hx; cases hx
  | more x a G' => have := nx_end hc; omega
 | succ k ih =>
  intro p G hk;cases hc : nx b p G ah0 none with
  | fin a G' => rw [rdR_fin hc]; intro x hx; cases hx
  | bad a e G' => rw [rdR_bad hc]; intro x hx; cases hx
  | more x a G' =>
   rw [rdR_more hc];intro y hy;rcases List.mem_cons.1 hy with e | hy
   ·subst e;have := nx_plc hc;exact ⟨this.head, this.data, this.next, this.fit⟩
   ·exact ih a G' (by have := nx_end hc; omega) y hy
end Go.Proofs.YtlenihpbhlfcoaaGreatDoor
namespace Go.Proofs.YtlenihpbhlfcoaaGreatDoor
open Go.RowKit Go.Deep
theorem TwJ.nw {w V V1 : World} {rb : Nat} {va : Option Addr} {vc : Nat} {b : List By} {p : Nat} {vG : Value} {G : List Pr} {n : Nat} (h : TwJ w rb va vc b p vG G n V) (k : Nw V V1) : TwJ w rb va vc b p vG G n V1 := ⟨h.fr.trans k, RL.step (Rm.nw h.rl k) k.size, h.ok, h.gz.nw k, h.le, h.eq, h.ln⟩
theorem MpN.ixw {w V : World} {y : Ix} (h1 : MpN w (.slice y.ma y.mn y.mc) y.x.map V) (h2 : NewP w (.slice y.pa y.pn y.pc) y.x.pairs V) : IxW (fun _ => False) y V := by
 obtain ⟨_, o1, m1, m2⟩ := h1;obtain ⟨o2, m3, m4⟩ := h2;exact ⟨(m1.slr rgOk).mono (fun _ h => h.elim), (m3.slr rpOk).mono (fun _ h => h.elim)⟩
theorem slices_walk (w : World) (hE : Env w) (xb : Option Addr) (cb : Nat) (b : List By) (hb : Old w (.slice xb b.length cb) b) (hbl : b.length ≤ 140737488351232) :
  Calls Tryz.prog 7 #[.slice xb b.length cb] w fun e w' => e = .returned (.bool true) ∧ Nw w w' := by
 refine asP fun P hP => ?_
 have HP : Hid (∀ V, Nw w V → P (.returned (.bool true)) V) := fun V hV => by rw [hP]; exact ⟨rfl, hV⟩
 have HE := tHid hE;have HL := tHid (lives16_any w hE);have HB := tHid hb;obtain ⟨N, hN⟩ : ∃ N, b.length = N := ⟨_, rfl⟩;have HN := tHid hN;rw [hN] at hbl ⊢;clear hP hE hb hN;go_enter Tryz.func7, Tryz.ntmps7
 go_wp2_with fail
 go_at_call 8
 with_reducible refine HL.out.mono ?_
 rintro e V0 ⟨rfl, n0⟩;have N0 := tHid n0;clear n0 HL;obtain ⟨g1, c1, W1, HA1, o1, l1, n1⟩ := copyR V0 (.slice xb N cb) b ((by rw [← HN.out]; exact (Sl.nw HB.out N0.out).mono (fun _ h => h.elim))) (by rw [HN.out]; omega);rw [HN.out] at HA1 o1;have HW : Hid (Calls Tryz.prog 12 #[.slice (some ⟨g1, 0, none⟩) N c1] W1 fun e V => ∃ rb, e = .returned (.pointer (some ⟨rb, 0, none⟩)) ∧ Hid (∃ va vc, TwJ W1 rb va vc b 0 (.slice none 0 0) [] 0 V)) := by
  have hold : Old W1 (.slice (some ⟨g1, 0, none⟩) N c1) b := by rw [← HN.out]; rw [← HN.out] at o1; exact o1.old
  exact (qNew_any W1 (some ⟨g1, 0, none⟩) N c1 b (Sl.nw hold (Fr.refl _ _)) (by omega)).mono fun e V h => by
   obtain ⟨rb, va, vc, rfl, h1, h2, h3⟩ := h;exact ⟨rb, rfl, va, vc, twJ_start h1 h2 h3⟩
 have N1 : Hid (Nw w W1) := N0.out.trans n1;clear o1 l1 n1
 go_wp2_with (first
  | (at_builtin; refine Lib.wpList_append_run _ rfl _ _ 22 22 rfl (.slice (some ⟨V0.heap.size, 0, none⟩) 0 0) (.slice xb N cb) (by first | rfl | simp [Act.eval]) (by first | rfl | simp [Act.eval]) _ _ (HA1.out _) ?_)
  | fail)
 go_at_call 12
 with_reducible refine HW.out.mono ?_
 rintro e V2 ⟨rb, rfl, K2⟩;clear HW HA1;obtain ⟨va, vc, J0⟩ := K2;have HEB : Hid (EnvB W1.heap.size W1) := EnvB.of (HE.out.nw N1.out);have J0 := tHid J0
 go_wp2_with fail
 go_loopg [4, 5, 6, 7, 8, 9, 10, 11] N (fun kx v4 v5 v6 v7 v8 v9 v10 v11 wr => ∃ (n p : Nat), v4 = .int .i64 n ∧ N ≤ p + kx ∧ p ≤ N ∧ 512 * n ≤ p ∧ Hid (∃ vG G, TwJ W1 rb va vc b p vG G n wr))
 case atStart => exact ⟨0, 0, rfl, by omega, by omega, by omega, _, _, J0.out⟩
 case round =>
  obtain ⟨n, p, rfl, hkx, hp, hnp, K⟩ := hrel;have HNX : Hid (Calls Tryz.prog 13 #[.pointer (some ⟨rb, 0, none⟩)] wr fun e V =>
   (∃ (E : Nat), e = .returned (.tuple #[.agg ziC, .bool false, .int .i64 (E : Nat)]) ∧ Hid (Nw W1 V)) ∨
   (∃ y : Ix, e = .returned (.tuple #[.agg y.C, .bool true, .int .i64 0]) ∧ Hid (∃ (a : Nat) (G' : List Pr), p + 512 ≤ a ∧ a ≤ N ∧ 512 * (n + 1) ≤ a ∧ IxW (fun _ => False) y V ∧ y.x.next = a ∧ y.x.frm ≤ y.x.next ∧ (G' = [] → ∃ z, rdR ((b.drop y.x.frm).take (a - y.x.frm)) 0 [] = ([z], a - y.x.frm, 0, []) ∧ y.x = shI y.x.frm z ∧ y.x.frm + 512 ≤ a) ∧ ∀ V2, Nw V V2 → ∃ vG', TwJ W1 rb va vc b a vG' G' (n + 1) V2))) := by
   obtain ⟨vG, G, h⟩ := K.out;have hEB : EnvB W1.heap.size wr := HEB.out.fr h.fr (Nat.le_refl _) (fun k hk => hk.elim);have hNX := qNext_any wr p vG G h.rl h.ok W1.heap.size hEB ⟨h.fr.size, h.le⟩ (fun _ => False) h.gz (fun k hk => hk.elim);have hle := h.le;refine hNX.mono fun e V hA => ?_
   cases hR : nx b p G ah0 none with
   | fin a G' =>
    rw [hR] at hA;obtain ⟨vG', rfl, h1, h2, h3, h4⟩ := hA;exact .inl ⟨0, rfl, h.fr.then h1 (fun i hi => .inr (by omega))⟩
   | bad a E G' =>
    rw [hR] at hA;obtain ⟨rfl, h1, vG', h2⟩ := hA;exact .inl ⟨E, rfl, h.fr.then h1 (fun i hi => .inr (by omega))⟩
   | more x a G' =>
    rw [hR] at hA;obtain ⟨vM, vP, vG', rfl, h1, h2, h3, h4, h5, h6, h7⟩ := hA;obtain ⟨a1, m1, c1, e1⟩ := h4.1;obtain ⟨a2, m2, c2, e2⟩ := h6;subst e1 e2;have hx := nx_end hR;have hpl := nx_plc hR;have hN := HN.out;refine .inr ⟨⟨x, a1, m1, c1, a2, m2, c2⟩, rfl, a, G', hx.1, by omega, by omega, MpN.ixw h4 h5, hpl.end_, by have := hpl.head; have := hpl.data; have := hpl.next; show x.frm ≤ x.next; omega, fun hG => ?_, fun V2 hV2 => ⟨vG', h.more hR h1 h2 h3 h7 hV2⟩⟩;subst hG;obtain ⟨z, k1, k2, k3, k4, k5⟩ := rd_slice hR;exact ⟨z, k1, k2, k4⟩
  have hle : (n : Int) ≤ (N : Int) / 512 := by omega
  go_wp2_with fail
  go_at_call 13
  with_reducible refine HNX.out.mono ?_
  clear HNX K;rintro e V (⟨E, rfl, K2⟩ | ⟨y, rfl, K2⟩)
  ·obtain ⟨W2, e1⟩ : ∃ W2, (V.alloc (.cells #[.string ⟨#[]⟩, .int .i64 0, .int .u32 0, .int .u32 0, .int .u32 0, .int .i64 0, .int .i32 0, .string ⟨#[]⟩, .string ⟨#[]⟩, .string ⟨#[]⟩, .int .i64 0, .int .u8 0, .int .i64 0, .int .u8 0, .int .i64 0, .int .i64 0, .int .i64 0, .int .i64 0, .int .i64 0, .bool false, .slice none 0 0, .slice none 0 0] 36)).setRow V.heap.size ziC = W2 := ⟨_, rfl⟩;have n1 : Nw V W2 := by rw [← e1]; exact ((Fr.refl _ _).alloc _).setRow _ _ (.inr (Nat.le_refl _))
   have HZ0 : Hid ((ziC : Array Value).all (·.oneCell') = true) := by show _ = _; simp [ziC, Value.oneCell']
   have E1 := tHid e1;have N2 : Hid (Nw w W2) := (N1.out.trans K2.out).trans n1;clear e1 n1
   go_wp2_with (first | (refine wpList_store_row rfl 36 _ _ rfl V.heap.size ziC (by first | rfl | simp [Act.eval]) (by first | rfl | simp [Act.eval]) 36 _ (newHeap _ _) ziI rfl HZ0.out ?_; rw [E1.out]) | fail)
   exact HP.out _ N2.out
  ·obtain ⟨a, G, hp1, hp2, hp3, iy, hya, hyf, hsl, K3⟩ := K2;obtain ⟨W2, e1⟩ : ∃ W2, (V.alloc (.cells #[.string ⟨#[]⟩, .int .i64 0, .int .u32 0, .int .u32 0, .int .u32 0, .int .i64 0, .int .i32 0, .string ⟨#[]⟩, .string ⟨#[]⟩, .string ⟨#[]⟩, .int .i64 0, .int .u8 0, .int .i64 0, .int .u8 0, .int .i64 0, .int .i64 0, .int .i64 0, .int .i64 0, .int .i64 0, .bool false, .slice none 0 0, .slice none 0 0] 36)).setRow V.heap.size y.C = W2 := ⟨_, rfl⟩;have n1 : Nw V W2 := by rw [← e1]; exact ((Fr.refl _ _).alloc _).setRow _ _ (.inr (Nat.le_refl _))
   have r2 : W2.heap[V.heap.size]? = some (.cells y.C 36) := by rw [← e1]; exact setRow_heap _ _ _ _ 36 _ (newHeap _ _)
   obtain ⟨vG, J2⟩ := K3 W2 n1;have N2 : Hid (Nw w W2) := N1.out.trans J2.fr;have HONE : Hid (y.C.all (·.oneCell') = true) := by show _ = _; simp [Ix.C, icC, Value.oneCell']
   have E1 := tHid e1;obtain ⟨Gn, hGn⟩ : ∃ Gn, G.length = Gn := ⟨_, rfl⟩;have HGB : Hid (Calls Tryz.prog 15 #[.pointer (some ⟨rb, 0, none⟩)] W2 fun e V' => ∃ (av : Option Addr) (cv : Nat), e = .returned (.slice av Gn cv) ∧ Hid (Nw W2 V')) := by
    exact (qGlobals_any J2.rl (by have := J2.ok.1; omega)).mono fun e V' h => by
     obtain ⟨v, rfl, h1, og, h2, _⟩ := h;obtain ⟨av, cv, rfl, _, _⟩ := h2.form;exact ⟨av, cv, by rw [hGn], h1⟩
   have J2 := tHid J2;have IY : Hid (IxW (fun _ => False) y W2) := iy.nw n1;have R2 := tHid r2;have HSL := tHid hsl;clear e1 n1 K3 iy r2 hsl;by_cases hG0 : Gn = 0;rotate_left
   ·have hGI : (0 : Int) < (Gn : Int) := by omega
    go_wp2_with (first
     | (refine wpList_store_row rfl 36 _ _ rfl V.heap.size y.C (by first | rfl | simp [Act.eval]) (by first | rfl | simp [Act.eval]) 36 _ (newHeap _ _) ixI rfl HONE.out ?_; rw [E1.out])
     | (go_at_call 15; with_reducible refine HGB.out.mono ?_; rintro e V5 ⟨av5, cv5, rfl, K5⟩)
     | fail)
    exact HP.out _ (N2.out.trans K5.out)
   subst hG0;go_upto_region 14 with (first
    | (refine wpList_store_row rfl 36 _ _ rfl V.heap.size y.C (by first | rfl | simp [Act.eval]) (by first | rfl | simp [Act.eval]) 36 _ (newHeap _ _) ixI rfl HONE.out ?_; rw [E1.out])
    | (go_at_call 15; with_reducible refine HGB.out.mono ?_; rintro e V5 ⟨av5, cv5, rfl, K5⟩)
    | fail)
   have hG : G = [] := List.length_eq_zero_iff.1 hGn;obtain ⟨z0, hrd, hyz, hfr⟩ := HSL.out hG;subst hG;have N5 : Hid (Nw w V5) := N2.out.trans K5.out;have R5 : Hid (V5.heap[V.heap.size]? = some (.cells y.C 36)) := Nw.heap K5.out R2.out;have IY5 := tHid (IY.out.nw K5.out);have J5 : Hid (TwJ W1 rb va vc b a vG [] (n + 1) V5) := (J2.out).nw K5.out;obtain ⟨fr, hfr0⟩ : ∃ fr, y.x.frm = fr := ⟨_, rfl⟩;rw [hfr0] at hrd hyz hfr hyf;rw [hya] at hyf;have c14 : V5.cell? ⟨V.heap.size, 14, none⟩ = some (.int .i64 (fr : Nat)) := by rw [← hfr0]; exact cell_of R5.out 14 _ rfl
   have c17 : V5.cell? ⟨V.heap.size, 17, none⟩ = some (.int .i64 (a : Nat)) := by rw [← hya]; exact cell_of R5.out 17 _ rfl
   have d14 : (V5.alloc (.cells #[] 5)).cell? ⟨V.heap.size, 14, none⟩ = some (.int .i64 (fr : Nat)) := Nw.cell ((Fr.refl _ _).alloc _) c14;have d17 : (V5.alloc (.cells #[] 5)).cell? ⟨V.heap.size, 17, none⟩ = some (.int .i64 (a : Nat)) := Nw.cell ((Fr.refl _ _).alloc _) c17;have e1 : (fr : Int) ≤ (a : Int) := by omega
   have e3 : (0 : Int) ≤ (fr : Int) := by omega
   have HRD := tHid hrd;have HYZ := tHid hyz;obtain ⟨g, o, rfl, hcb1, hcb2, HBR⟩ : ∃ g o, xb = some ⟨g, o, none⟩ ∧ N ≤ cb ∧ cb < 9223372036854775808 ∧ Hid (Old V5 (.slice (some ⟨g, o + fr, none⟩) (a - fr) (cb - fr)) ((b.drop fr).take (a - fr))) := by
    have hbo : Old V5 (.slice xb b.length cb) b := (Sl.nw HB.out N5.out).mono (fun k hk => Nat.le_trans N5.out.size hk);have hNl := HN.out;rcases hbo with ⟨a', e, e2⟩ | ⟨g, hg, hs⟩
    ·rw [e2] at hNl;simp at hNl;omega
    ·obtain ⟨o, c', e, h1, h2, h3⟩ := id hs;injection e with e1 e2 e3;subst e1 e3;exact ⟨g, o, rfl, by omega, by omega, Old.sub hs hg fr (a - fr) (by omega)⟩
   have e2 : (a : Int) ≤ (cb : Int) := by omega
   clear R2 IY HSL HGB hrd hyz hGn J2 N2 K5;obtain ⟨q, hq⟩ : ∃ q, a - fr = q := ⟨_, rfl⟩;obtain ⟨sl, hsl⟩ : ∃ sl, (b.drop fr).take (a - fr) = sl := ⟨_, rfl⟩;have hql : sl.length = q := by rw [← hsl, List.length_take, List.length_drop, HN.out]; omega
   rw [hsl] at HBR HRD;rw [hq] at HBR HRD;have kq : (a : Int) - (fr : Int) = (q : Int) := by omega
   have kqw : IntKind.i64.wrap (q : Int) = (q : Int) := by rw [IntKind.wrap_i64]; omega
   obtain ⟨g7, c7, W7, HA7, o7, l7, n7⟩ := copyR V5 (.slice (some ⟨g, o + fr, none⟩) q (cb - fr)) sl (by exact (Sl.nw HBR.out (Fr.refl _ _)).mono (fun _ h => h.elim)) (by rw [hql]; omega);rw [hql] at HA7 o7;have HR7 : Hid (Calls Tryz.prog 9 #[.slice (some ⟨g7, 0, none⟩) q c7] W7 fun e V' => ∃ (av : Option Addr) (cv : Nat), e = .returned (.tuple #[.slice av 1 cv, .int .i64 (q : Nat), .int .i64 0]) ∧ Hid (∃ (L : List Ix), L.length = 1 ∧ L.map (·.x) = [z0] ∧ Nw W7 V' ∧ 1 ≤ cv ∧ cv < 9223372036854775808 ∧ ∃ og, OgR RIx og (.slice av 1 cv) L V' ∧ ∀ y ∈ L, IxW (fun _ => False) y V')) := by
    have hold : Old W7 (.slice (some ⟨g7, 0, none⟩) sl.length c7) sl := by rw [hql]; exact o7.old
    have := qRead_any W7 (some ⟨g7, 0, none⟩) c7 sl hold (by rw [hql]; omega) (HE.out.nw (N5.out.trans n7));rw [hql] at this;exact this.mono fun e V' h => by
     obtain ⟨Ln, av, cv, a2, E2, rfl, L, G2, k1, k2, k3, k4, k5, og, k6, k7, k8⟩ := reF h;rw [HRD.out] at k2;simp only [Prod.mk.injEq] at k2;obtain ⟨j1, j2, j3, j4⟩ := k2;subst j2 j3;have hl1 := congrArg List.length j1;simp only [List.length_singleton, List.length_map] at hl1;obtain rfl : Ln = 1 := by omega
     exact ⟨av, cv, rfl, L, k1, j1.symm, k3, k4, k5, og, k6, fun y hy => (k8 y hy).mono (fun _ h => h.elim)⟩
   have N7 := tHid n7;clear o7 l7 n7;go_upto_region 15 with (first
    | (at_builtin; refine Lib.wpList_append_run _ rfl _ _ 22 22 rfl (.slice (some ⟨V5.heap.size, 0, none⟩) 0 0) (.slice (some ⟨g, o + fr, none⟩) q (cb - fr)) (by first | rfl | simp [Act.eval]) (by first | rfl | (rw [← hq]; rfl) | simp [Act.eval, hq]) _ _ (HA7.out _) ?_)
    | (go_at_call 9; with_reducible refine HR7.out.mono ?_; rintro e V8 ⟨av8, cv8, rfl, K8⟩)
    | fail)
   obtain ⟨L, hL1, hLz, n8, hcv1, hcv2, og, lo, it⟩ := K8;have N8 : Hid (Nw V5 V8) := N7.out.trans n8;have R8 : Hid (V8.heap[V.heap.size]? = some (.cells y.C 36)) := Nw.heap N8.out R5.out;have f14 : V8.cell? ⟨V.heap.size, 14, none⟩ = some (.int .i64 (fr : Nat)) := Nw.cell N8.out c14;have f17 : V8.cell? ⟨V.heap.size, 17, none⟩ = some (.int .i64 (a : Nat)) := Nw.cell N8.out c17;have HLO := tHid lo;have HIT := tHid it;have HLZ := tHid hLz;clear n8 lo it hLz HA7 HR7 N7 c14 c17 d14 d17 R5;have HL1 := tHid hL1;obtain ⟨z, hz⟩ : ∃ z, L = [z] := by
    match L, HL1.out with
    | [z], _ => exact ⟨z, rfl⟩
   subst hz;have hzx : z.x = z0 := by have := HLZ.out; simpa using this
   obtain ⟨g6, hg6⟩ : ∃ g, og = some g := by
    cases og with
    | none => have := HLO.out.2; simp at this
    | some g => exact ⟨g, rfl⟩
   subst hg6;have ow6 : OwR RIx g6 (.slice av8 1 cv8) [z] V8 := HLO.out;obtain ⟨cc6, ev6, _, _⟩ := ow6.form;injection ev6 with ea6 eb6 ec6;clear eb6 ec6;subst ea6;have iz0 : IxW (fun _ => False) z V8 := HIT.out z (List.mem_singleton.2 rfl);obtain ⟨CB, hCB⟩ : ∃ CB, z.C.toList = CB := ⟨_, rfl⟩;have HZB : Hid ((Tryz.prog.info? 36).map (·.size) = some CB.length) := by rw [← hCB]; exact ixI
   have HZBA : Hid ((Tryz.prog.info? 36).map (·.size) = some CB.toArray.size) := by rw [← hCB]; exact ixI
   have HONEB : Hid (CB.toArray.all (·.oneCell') = true) := by rw [← hCB, Array.toArray_toList]; show _ = _; simp [Ix.C, icC, Value.oneCell']
   have HRB : Hid (V8.rangeAt g6 0 CB) := fun j v hv => by
    rw [← hCB] at hv;have := ow6.cell rixOk 0 j z v rfl hv;rw [Nat.zero_mul] at this;exact this.1
   obtain ⟨W9, e9⟩ : ∃ W9, (V8.alloc (.cells #[.string ⟨#[]⟩, .int .i64 0, .int .u32 0, .int .u32 0, .int .u32 0, .int .i64 0, .int .i32 0, .string ⟨#[]⟩, .string ⟨#[]⟩, .string ⟨#[]⟩, .int .i64 0, .int .u8 0, .int .i64 0, .int .u8 0, .int .i64 0, .int .i64 0, .int .i64 0, .int .i64 0, .int .i64 0, .bool false, .slice none 0 0, .slice none 0 0] 36)).setRow V8.heap.size CB.toArray = W9 := ⟨_, rfl⟩;have n9 : Nw V8 W9 := by rw [← e9]; exact ((Fr.refl _ _).alloc _).setRow _ _ (.inr (Nat.le_refl _))
   have r9 : W9.heap[V8.heap.size]? = some (.cells CB.toArray 36) := by rw [← e9]; exact setRow_heap _ _ _ _ 36 _ (newHeap _ _)
   have HSZB : Hid ((#[.string ⟨#[]⟩, .int .i64 0, .int .u32 0, .int .u32 0, .int .u32 0, .int .i64 0, .int .i32 0, .string ⟨#[]⟩, .string ⟨#[]⟩, .string ⟨#[]⟩, .int .i64 0, .int .u8 0, .int .i64 0, .int .u8 0, .int .i64 0, .int .i64 0, .int .i64 0, .int .i64 0, .int .i64 0, .bool false, .slice none 0 0, .slice none 0 0] : Array Value).size = CB.toArray.size) := by rw [← hCB]; rfl
   have E9 := tHid e9;clear e9;go_upto_region 18 with (first
    | (refine wpList_load_mid rfl 36 _ rfl g6 0 (by first | rfl | simp [Act.eval]) CB _ HRB.out Tryz.underlying36 rfl HZB.out ?_)
    | (refine wpList_store_row rfl 36 _ _ rfl V8.heap.size CB.toArray (by first | rfl | simp [Act.eval]) (by first | rfl | simp [Act.eval]) 36 _ (newHeap _ _) HZBA.out HSZB.out HONEB.out ?_; rw [E9.out])
    | fail)
   have c14 : W9.cell? ⟨V8.heap.size, 14, none⟩ = some (.int .i64 (z.x.frm : Nat)) := cell_of r9 14 _ (by rw [← hCB]; rfl);have c15 : W9.cell? ⟨V8.heap.size, 15, none⟩ = some (.int .i64 (z.x.head : Nat)) := cell_of r9 15 _ (by rw [← hCB]; rfl);have c16 : W9.cell? ⟨V8.heap.size, 16, none⟩ = some (.int .i64 (z.x.data : Nat)) := cell_of r9 16 _ (by rw [← hCB]; rfl);have c17 : W9.cell? ⟨V8.heap.size, 17, none⟩ = some (.int .i64 (z.x.next : Nat)) := cell_of r9 17 _ (by rw [← hCB]; rfl)
   have z14 : W9.frozen? ⟨V8.heap.size, 14, none⟩ = false := row_froz r9 14 (.int .i64 (z.x.frm : Nat)) (by rw [← hCB]; rfl);have z15 : W9.frozen? ⟨V8.heap.size, 15, none⟩ = false := row_froz r9 15 (.int .i64 (z.x.head : Nat)) (by rw [← hCB]; rfl);have z16 : W9.frozen? ⟨V8.heap.size, 16, none⟩ = false := row_froz r9 16 (.int .i64 (z.x.data : Nat)) (by rw [← hCB]; rfl);have z17 : W9.frozen? ⟨V8.heap.size, 17, none⟩ = false := row_froz r9 17 (.int .i64 (z.x.next : Nat)) (by rw [← hCB]; rfl);have t14 : W9.cell? ⟨V.heap.size, 14, none⟩ = some (.int .i64 (fr : Nat)) := Nw.cell n9 f14
   have hlt5 : V.heap.size < V8.heap.size := (Array.getElem?_eq_some_iff.1 R8.out).1;have hne : V.heap.size ≠ V8.heap.size := by omega
   have hne' : V8.heap.size ≠ V.heap.size := by omega
   obtain ⟨p9, hp9⟩ : ∃ p9, V8.heap.size = p9 := ⟨_, rfl⟩;obtain ⟨p5, hp5⟩ : ∃ p5, V.heap.size = p5 := ⟨_, rfl⟩;rw [hp9] at c14 c15 c16 c17 z14 z15 z16 z17 hlt5 hne hne' r9 ⊢;rw [hp5] at t14 hlt5 hne hne' ⊢;obtain ⟨f0, hf0⟩ : ∃ f0, z.x.frm = f0 := ⟨_, rfl⟩;obtain ⟨f1, hf1⟩ : ∃ f1, z.x.head = f1 := ⟨_, rfl⟩;obtain ⟨f2, hf2⟩ : ∃ f2, z.x.data = f2 := ⟨_, rfl⟩;obtain ⟨f3, hf3⟩ : ∃ f3, z.x.next = f3 := ⟨_, rfl⟩;rw [hf0] at c14;rw [hf1] at c15;rw [hf2] at c16;rw [hf3] at c17;obtain ⟨h0, hh0⟩ : ∃ h0, fr + f0 = h0 := ⟨_, rfl⟩;obtain ⟨h1, hh1⟩ : ∃ h1, fr + f1 = h1 := ⟨_, rfl⟩
   obtain ⟨h2, hh2⟩ : ∃ h2, fr + f2 = h2 := ⟨_, rfl⟩;obtain ⟨h3, hh3⟩ : ∃ h3, fr + f3 = h3 := ⟨_, rfl⟩;have q14 := rd_plc (b := sl) _ 0 [] (Nat.le_refl _) z0 (by rw [HRD.out]; exact List.mem_singleton.2 rfl);rw [← hzx, hf0, hf1, hf2, hf3, hql] at q14;obtain ⟨q1, q2, q3, q4⟩ := q14;have a0 : (f0 : Int) + (fr : Int) = (h0 : Int) := by omega
   have a1 : (f1 : Int) + (fr : Int) = (h1 : Int) := by omega
   have a2 : (f2 : Int) + (fr : Int) = (h2 : Int) := by omega
   have a3 : (f3 : Int) + (fr : Int) = (h3 : Int) := by omega
   have b0 : IntKind.i64.wrap (h0 : Int) = (h0 : Int) := by rw [IntKind.wrap_i64]; omega
   have b1 : IntKind.i64.wrap (h1 : Int) = (h1 : Int) := by rw [IntKind.wrap_i64]; omega
   have b2 : IntKind.i64.wrap (h2 : Int) = (h2 : Int) := by rw [IntKind.wrap_i64]; omega
   have b3 : IntKind.i64.wrap (h3 : Int) = (h3 : Int) := by rw [IntKind.wrap_i64]; omega
   have N9 := tHid n9;have R9 := tHid r9;obtain ⟨z', hz'⟩ : ∃ z' : Ix, z' = ⟨shI fr z.x, z.ma, z.mn, z.mc, z.pa, z.pn, z.pc⟩ := ⟨_, rfl⟩;have hyz : y.x = z'.x := by rw [hz', hzx]; exact HYZ.out
   have iz : IxW (fun _ => False) z' V8 := by rw [hz']; exact ⟨iz0.m, iz0.p⟩
   have iy8 : IxW (fun _ => False) y V8 := (IY5.out).nw N8.out;obtain ⟨C1, hC1⟩ : ∃ C1, z'.C.toList = C1 := ⟨_, rfl⟩;obtain ⟨CX, hCX⟩ : ∃ CX, y.C.toList = CX := ⟨_, rfl⟩;have HZ1 : Hid ((Tryz.prog.info? 36).map (·.size) = some C1.length) := by rw [← hC1]; exact ixI
   have HZX : Hid ((Tryz.prog.info? 36).map (·.size) = some CX.length) := by rw [← hCX]; exact ixI
   have rA := row_setN R9.out 14 (.int .i64 (fr + z.x.frm : Nat));have rB := row_setN rA 15 (.int .i64 (fr + z.x.head : Nat));have rC := row_setN rB 16 (.int .i64 (fr + z.x.data : Nat));have rW0 : ((((W9.setCell ⟨p9, 14, none⟩ (.int .i64 (fr + z.x.frm : Nat))).setCell ⟨p9, 15, none⟩ (.int .i64 (fr + z.x.head : Nat))).setCell ⟨p9, 16, none⟩ (.int .i64 (fr + z.x.data : Nat))).setCell ⟨p9, 17, none⟩ (.int .i64 (fr + z.x.next : Nat))).heap[p9]? = some (.cells C1.toArray 36) := by
    have q := row_setN rC 17 (.int .i64 (fr + z.x.next : Nat));rw [q, ← hC1, ← hCB, hz', Array.toArray_toList, Array.toArray_toList];rfl
   have y15 := cell_of rA 15 (.int .i64 (z.x.head : Nat)) (by rw [← hCB]; rfl);have v15 := row_froz rA 15 (.int .i64 (z.x.head : Nat)) (by rw [← hCB]; rfl);have y16 := cell_of rB 16 (.int .i64 (z.x.data : Nat)) (by rw [← hCB]; rfl);have v16 := row_froz rB 16 (.int .i64 (z.x.data : Nat)) (by rw [← hCB]; rfl);have y17 := cell_of rC 17 (.int .i64 (z.x.next : Nat)) (by rw [← hCB]; rfl);have v17 := row_froz rC 17 (.int .i64 (z.x.next : Nat)) (by rw [← hCB]; rfl);rw [hf0, hf1, hf2, hf3, hh0, hh1, hh2, hh3] at rW0;rw [hf0, hf1, hh0] at y15;rw [hf0, hh0] at v15;rw [hf0, hf1, hf2, hh0, hh1] at y16
   rw [hf0, hf1, hh0, hh1] at v16;rw [hf0, hf1, hf2, hf3, hh0, hh1, hh2] at y17;rw [hf0, hf1, hf2, hh0, hh1, hh2] at v17;obtain ⟨W13, e13⟩ : ∃ W13, ((((W9.setCell ⟨p9, 14, none⟩ (.int .i64 (h0 : Nat))).setCell ⟨p9, 15, none⟩ (.int .i64 (h1 : Nat))).setCell ⟨p9, 16, none⟩ (.int .i64 (h2 : Nat))).setCell ⟨p9, 17, none⟩ (.int .i64 (h3 : Nat))).drew = W13 := ⟨_, rfl⟩;have rW0 : W13.heap[p9]? = some (.cells C1.toArray 36) := by rw [← e13]; exact rW0
   have NW : Hid (Nw V8 W13) := by
    rw [← e13];have hle9 : V8.heap.size ≤ p9 := Nat.le_of_eq hp9;exact ((((N9.out.setCell _ _ (.inr hle9)).setCell _ _ (.inr hle9)).setCell _ _ (.inr hle9)).setCell _ _ (.inr hle9)).drew
   have RW := tHid rW0;have E13 := tHid e13;have R8p : Hid (V8.heap[p5]? = some (.cells y.C 36)) := by have := R8.out; rw [hp5] at this; exact this
   have HSM : Hid (∀ V, Nw W13 V → Calls Tryz.prog 11 #[.agg CX.toArray, .agg C1.toArray] V fun e w' => e = .returned (.bool true) ∧ Hid (Nw W13 w')) := fun V hV => by
    rw [← hC1, ← hCX, Array.toArray_toList, Array.toArray_toList];exact (qxsame_any V y z' hyz (iy8.nw (NW.out.trans hV)) (iz.nw (NW.out.trans hV))).mono fun e w' h => ⟨h.1, hV.trans h.2⟩
   have HRX : Hid (W13.rangeAt p5 0 CX) := fun j v hv => by
    rw [Nat.zero_add, ← hCX] at *;exact cell_of (Nw.heap NW.out R8p.out) j v (by simpa using hv)
   have HR1 : Hid (W13.rangeAt p9 0 C1) := fun j v hv => by
    rw [Nat.zero_add];exact cell_of RW.out j v (by simpa using hv)
   obtain ⟨n', hn'⟩ : ∃ n', n + 1 = n' := ⟨_, rfl⟩;have hi : ((n : Int) + 1) = (n' : Int) := by omega
   have hw : IntKind.i64.wrap (n' : Int) = (n' : Int) := by rw [IntKind.wrap_i64]; omega
   have J6 : Hid (TwJ W1 rb va vc b a vG [] n' W13) := by have := (J5.out).nw (N8.out.trans NW.out); rw [hn'] at this; exact this
   have hp4 : 512 * n' ≤ a := by omega
   have HS18 : Hid (W9.drew.cell? ⟨p5, 14, none⟩ = some (.int .i64 (fr : Nat))) := t14;have HST : Hid (∀ (V : World) (c : Nat) (v : Value), V.cell? ⟨p5, 14, none⟩ = some (.int .i64 (fr : Nat)) → (V.setCell ⟨p9, c, none⟩ v).cell? ⟨p5, 14, none⟩ = some (.int .i64 (fr : Nat))) := fun V c v h => Fr.cellv ((Fr.refl (fun k => k = p9) V).setCell ⟨p9, c, none⟩ v (.inl rfl)) h (by exact hne)
   have y14 : W9.drew.cell? ⟨p9, 14, none⟩ = some (.int .i64 (f0 : Nat)) := c14;have v14 : W9.drew.frozen? ⟨p9, 14, none⟩ = false := z14;have HC18 : Hid (W9.drew.cell? ⟨p9, 14, none⟩ = some (.int .i64 (f0 : Nat)) ∧ W9.drew.cell? ⟨p9, 15, none⟩ = some (.int .i64 (f1 : Nat)) ∧ W9.drew.cell? ⟨p9, 16, none⟩ = some (.int .i64 (f2 : Nat)) ∧ W9.drew.cell? ⟨p9, 17, none⟩ = some (.int .i64 (f3 : Nat))) := ⟨c14, c15, c16, c17⟩
   clear n9 r9 E9 hf0 hf1 hf2 hf3 HRB HZB HZBA HONEB HSZB f14 f17 kq kqw N8 rW0 e13 hC1 hCX hCB hz' hyz iz iy8 HYZ HIT HLZ HLO ow6 hzx hh0 hh1 hh2 hh3 c14 c15 c16 c17 z14 z15 z16 z17 hn' J5 IY5 R8 R8p RW N9 R9 rA rB rC HRD HBR t14 iz0 q1 q2 q3 q4;have HB18 : W9.drew.cell? ⟨p5, 14, none⟩ = some (.int .i64 (fr : Nat)) := HS18.out
   refine startG (S := SgG 21 (fun U => U.cell? ⟨p5, 14, none⟩ = some (.int .i64 (fr : Nat))) (fun U => U.cell? ⟨p9, 14, none⟩ = some (.int .i64 (f0 : Nat)) ∧ U.cell? ⟨p9, 15, none⟩ = some (.int .i64 (f1 : Nat)) ∧ U.cell? ⟨p9, 16, none⟩ = some (.int .i64 (f2 : Nat)) ∧ U.cell? ⟨p9, 17, none⟩ = some (.int .i64 (f3 : Nat)))) (by kernel_rfl) ?_;refine takeB (i := 0) (oi := ⟨some 71, .fieldAddr 36 (.tmp 11) 3, 0, "outright.go:166", #[], none⟩) (v := ?_) rfl ?_ HC18.out HB18 ?_ (by rfl) (by kernel_rfl) (by kernel_rfl) (by kernel_rfl) (by kernel_rfl) (fun _ _ _ h => h);rotate_left
   ·intro U hSw; (go_simp <;> with_reducible rfl)
   try simp only [Act.put, nz1, nz2, nz3]
   refine takeB (i := 2) (oi := ⟨some 73, .fieldAddr 36 (.tmp 5) 3, 0, "outright.go:166", #[], none⟩) (v := ?_) rfl ?_ HC18.out HB18 ?_ (by rfl) (by kernel_rfl) (by kernel_rfl) (by kernel_rfl) (by kernel_rfl) (fun _ _ _ h => h);rotate_left
   ·intro U hSw; (go_simp <;> with_reducible rfl)
   try simp only [Act.put, nz1, nz2, nz3]
   refine takeB (i := 5) (oi := ⟨some 76, .fieldAddr 36 (.tmp 11) 4, 0, "outright.go:166", #[], none⟩) (v := ?_) rfl ?_ HC18.out HB18 ?_ (by rfl) (by kernel_rfl) (by kernel_rfl) (by kernel_rfl) (by kernel_rfl) (fun _ _ _ h => h);rotate_left
   ·intro U hSw; (go_simp <;> with_reducible rfl)
   try simp only [Act.put, nz1, nz2, nz3]
   refine takeB (i := 7) (oi := ⟨some 78, .fieldAddr 36 (.tmp 5) 3, 0, "outright.go:166", #[], none⟩) (v := ?_) rfl ?_ HC18.out HB18 ?_ (by rfl) (by kernel_rfl) (by kernel_rfl) (by kernel_rfl) (by kernel_rfl) (fun _ _ _ h => h);rotate_left
   ·intro U hSw; (go_simp <;> with_reducible rfl)
   try simp only [Act.put, nz1, nz2, nz3]
   refine takeB (i := 10) (oi := ⟨some 81, .fieldAddr 36 (.tmp 11) 5, 0, "outright.go:166", #[], none⟩) (v := ?_) rfl ?_ HC18.out HB18 ?_ (by rfl) (by kernel_rfl) (by kernel_rfl) (by kernel_rfl) (by kernel_rfl) (fun _ _ _ h => h);rotate_left
   ·intro U hSw; (go_simp <;> with_reducible rfl)
   try simp only [Act.put, nz1, nz2, nz3]
   refine takeB (i := 12) (oi := ⟨some 83, .fieldAddr 36 (.tmp 5) 3, 0, "outright.go:166", #[], none⟩) (v := ?_) rfl ?_ HC18.out HB18 ?_ (by rfl) (by kernel_rfl) (by kernel_rfl) (by kernel_rfl) (by kernel_rfl) (fun _ _ _ h => h);rotate_left
   ·intro U hSw; (go_simp <;> with_reducible rfl)
   try simp only [Act.put, nz1, nz2, nz3]
   refine takeB (i := 15) (oi := ⟨some 86, .fieldAddr 36 (.tmp 11) 6, 0, "outright.go:166", #[], none⟩) (v := ?_) rfl ?_ HC18.out HB18 ?_ (by rfl) (by kernel_rfl) (by kernel_rfl) (by kernel_rfl) (by kernel_rfl) (fun _ _ _ h => h);rotate_left
   ·intro U hSw; (go_simp <;> with_reducible rfl)
   try simp only [Act.put, nz1, nz2, nz3]
   refine takeB (i := 17) (oi := ⟨some 88, .fieldAddr 36 (.tmp 5) 3, 0, "outright.go:166", #[], none⟩) (v := ?_) rfl ?_ HC18.out HB18 ?_ (by rfl) (by kernel_rfl) (by kernel_rfl) (by kernel_rfl) (by kernel_rfl) (fun _ _ _ h => h);rotate_left
   ·intro U hSw; (go_simp <;> with_reducible rfl)
   try simp only [Act.put, nz1, nz2, nz3]
   refine takeB (i := 3) (oi := ⟨some 74, .load 3 (.tmp 73), 3, "outright.go:166", #[⟨2, .data⟩], none⟩) (v := ?_) rfl ?_ HC18.out HB18 ?_ (by rfl) (by kernel_rfl) (by kernel_rfl) (by kernel_rfl) (by kernel_rfl) (fun _ _ _ h => h);rotate_left
   ·intro U hSw; (go_simp <;> with_reducible rfl)
   try simp only [Act.put, nz1, nz2, nz3]
   refine takeB (i := 8) (oi := ⟨some 79, .load 3 (.tmp 78), 3, "outright.go:166", #[⟨7, .data⟩], none⟩) (v := ?_) rfl ?_ HC18.out HB18 ?_ (by rfl) (by kernel_rfl) (by kernel_rfl) (by kernel_rfl) (by kernel_rfl) (fun _ _ _ h => h);rotate_left
   ·intro U hSw; (go_simp <;> with_reducible rfl)
   try simp only [Act.put, nz1, nz2, nz3]
   refine takeB (i := 13) (oi := ⟨some 84, .load 3 (.tmp 83), 3, "outright.go:166", #[⟨12, .data⟩], none⟩) (v := ?_) rfl ?_ HC18.out HB18 ?_ (by rfl) (by kernel_rfl) (by kernel_rfl) (by kernel_rfl) (by kernel_rfl) (fun _ _ _ h => h);rotate_left
   ·intro U hSw; (go_simp <;> with_reducible rfl)
   try simp only [Act.put, nz1, nz2, nz3]
   refine takeB (i := 18) (oi := ⟨some 89, .load 3 (.tmp 88), 3, "outright.go:166", #[⟨17, .data⟩], none⟩) (v := ?_) rfl ?_ HC18.out HB18 ?_ (by rfl) (by kernel_rfl) (by kernel_rfl) (by kernel_rfl) (by kernel_rfl) (fun _ _ _ h => h);rotate_left
   ·intro U hSw; (go_simp <;> with_reducible rfl)
   try simp only [Act.put, nz1, nz2, nz3]
   refine takeC (i := 1) (oi := ⟨some 72, .load 3 (.tmp 71), 3, "outright.go:166", #[⟨0, .data⟩], none⟩) (v := ?_) rfl ?_ HC18.out HB18 ?_ (by rfl) (by kernel_rfl) (by kernel_rfl) (by kernel_rfl) (by kernel_rfl) (by kernel_rfl) (by kernel_rfl) (fun _ _ _ h => h);rotate_left
   ·intro U hSw; obtain ⟨hs0, hs1, hs2, hs3⟩ := hSw; (go_simp <;> with_reducible rfl)
   try simp only [Act.put, nz1, nz2, nz3]
   refine takeC (i := 6) (oi := ⟨some 77, .load 3 (.tmp 76), 3, "outright.go:166", #[⟨5, .data⟩], none⟩) (v := ?_) rfl ?_ HC18.out HB18 ?_ (by rfl) (by kernel_rfl) (by kernel_rfl) (by kernel_rfl) (by kernel_rfl) (by kernel_rfl) (by kernel_rfl) (fun _ _ _ h => h);rotate_left
   ·intro U hSw; obtain ⟨hs0, hs1, hs2, hs3⟩ := hSw; (go_simp <;> with_reducible rfl)
   try simp only [Act.put, nz1, nz2, nz3]
   refine takeC (i := 11) (oi := ⟨some 82, .load 3 (.tmp 81), 3, "outright.go:166", #[⟨10, .data⟩], none⟩) (v := ?_) rfl ?_ HC18.out HB18 ?_ (by rfl) (by kernel_rfl) (by kernel_rfl) (by kernel_rfl) (by kernel_rfl) (by kernel_rfl) (by kernel_rfl) (fun _ _ _ h => h);rotate_left
   ·intro U hSw; obtain ⟨hs0, hs1, hs2, hs3⟩ := hSw; (go_simp <;> with_reducible rfl)
   try simp only [Act.put, nz1, nz2, nz3]
   refine takeC (i := 16) (oi := ⟨some 87, .load 3 (.tmp 86), 3, "outright.go:166", #[⟨15, .data⟩], none⟩) (v := ?_) rfl ?_ HC18.out HB18 ?_ (by rfl) (by kernel_rfl) (by kernel_rfl) (by kernel_rfl) (by kernel_rfl) (by kernel_rfl) (by kernel_rfl) (fun _ _ _ h => h);rotate_left
   ·intro U hSw; obtain ⟨hs0, hs1, hs2, hs3⟩ := hSw; (go_simp <;> with_reducible rfl)
   try simp only [Act.put, nz1, nz2, nz3]
   refine takeB (i := 4) (oi := ⟨some 75, .binOp BinOp.add 3 (.tmp 72) (.tmp 74) 3, 3, "outright.go:166", #[⟨1, .data⟩, ⟨3, .data⟩], none⟩) (v := ?_) rfl ?_ HC18.out HB18 ?_ (by rfl) (by kernel_rfl) (by kernel_rfl) (by kernel_rfl) (by kernel_rfl) (fun _ _ _ h => h);rotate_left
   ·intro U hSw; (go_simp <;> with_reducible rfl)
   try simp only [Act.put, nz1, nz2, nz3]
   refine takeB (i := 9) (oi := ⟨some 80, .binOp BinOp.add 3 (.tmp 77) (.tmp 79) 3, 3, "outright.go:166", #[⟨6, .data⟩, ⟨8, .data⟩], none⟩) (v := ?_) rfl ?_ HC18.out HB18 ?_ (by rfl) (by kernel_rfl) (by kernel_rfl) (by kernel_rfl) (by kernel_rfl) (fun _ _ _ h => h);rotate_left
   ·intro U hSw; (go_simp <;> with_reducible rfl)
   try simp only [Act.put, nz1, nz2, nz3]
   refine takeB (i := 14) (oi := ⟨some 85, .binOp BinOp.add 3 (.tmp 82) (.tmp 84) 3, 3, "outright.go:166", #[⟨11, .data⟩, ⟨13, .data⟩], none⟩) (v := ?_) rfl ?_ HC18.out HB18 ?_ (by rfl) (by kernel_rfl) (by kernel_rfl) (by kernel_rfl) (by kernel_rfl) (fun _ _ _ h => h);rotate_left
   ·intro U hSw; (go_simp <;> with_reducible rfl)
   try simp only [Act.put, nz1, nz2, nz3]
   refine takeB (i := 19) (oi := ⟨some 90, .binOp BinOp.add 3 (.tmp 87) (.tmp 89) 3, 3, "outright.go:166", #[⟨16, .data⟩, ⟨18, .data⟩], none⟩) (v := ?_) rfl ?_ HC18.out HB18 ?_ (by rfl) (by kernel_rfl) (by kernel_rfl) (by kernel_rfl) (by kernel_rfl) (fun _ _ _ h => h);rotate_left
   ·intro U hSw; (go_simp <;> with_reducible rfl)
   try simp only [Act.put, nz1, nz2, nz3]
   refine takeB (i := 20) (oi := ⟨some 91, .fieldAddr 36 (.tmp 11) 3, 0, "outright.go:166", #[⟨0, .phase⟩, ⟨1, .phase⟩, ⟨2, .phase⟩, ⟨3, .phase⟩, ⟨4, .phase⟩, ⟨5, .phase⟩, ⟨6, .phase⟩, { on := 7, ground := Ground.textOnly Departure.lateStores }, { on := 8, ground := Ground.textOnly Departure.lateStores }, { on := 9, ground := Ground.textOnly Departure.lateStoresUnsure }, ⟨10, .phase⟩, ⟨11, .phase⟩, { on := 12, ground := Ground.textOnly Departure.lateStores }, { on := 13, ground := Ground.textOnly Departure.lateStores }, { on := 14, ground := Ground.textOnly Departure.lateStoresUnsure }, ⟨15, .phase⟩, ⟨16, .phase⟩, { on := 17, ground := Ground.textOnly Departure.lateStores }, { on := 18, ground := Ground.textOnly Departure.lateStores }, { on := 19, ground := Ground.textOnly Departure.lateStoresUnsure }], none⟩) (v := ?_) rfl ?_ HC18.out HB18 ?_ (by rfl) (by kernel_rfl) (by kernel_rfl) (by kernel_rfl) (by kernel_rfl) (fun _ _ _ h => h)
   rotate_left
   ·intro U hSw; (go_simp <;> with_reducible rfl)
   try simp only [Act.put, nz1, nz2, nz3]
   refine storeG (i := 21) (oi := ⟨none, .store 3 (.tmp 91) (.tmp 75), 0, "outright.go:166", #[⟨20, .data⟩, ⟨4, .data⟩, ⟨0, .phase⟩, ⟨1, .phase⟩, ⟨2, .phase⟩, ⟨3, .phase⟩, ⟨4, .phase⟩, ⟨5, .phase⟩, ⟨6, .phase⟩, { on := 7, ground := Ground.textOnly Departure.lateStores }, { on := 8, ground := Ground.textOnly Departure.lateStores }, { on := 9, ground := Ground.textOnly Departure.lateStoresUnsure }, ⟨10, .phase⟩, ⟨11, .phase⟩, { on := 12, ground := Ground.textOnly Departure.lateStores }, { on := 13, ground := Ground.textOnly Departure.lateStores }, { on := 14, ground := Ground.textOnly Departure.lateStoresUnsure }, ⟨15, .phase⟩, ⟨16, .phase⟩, { on := 17, ground := Ground.textOnly Departure.lateStores }, { on := 18, ground := Ground.textOnly Departure.lateStores }, { on := 19, ground := Ground.textOnly Departure.lateStoresUnsure }], none⟩) rfl (fun K hK => ?_) (by kernel_rfl) (by kernel_rfl)
   rw [if_pos (by rfl)];go_simp;refine hK.out _ _ (HST.out _ _ _ HB18) (fun hHeld1 => ?_);clear hK K;try simp only [Act.put, nz1, nz2, nz3]
   refine takeA (i := 22) (oi := ⟨some 92, .fieldAddr 36 (.tmp 11) 4, 0, "outright.go:166", #[⟨0, .phase⟩, ⟨1, .phase⟩, ⟨2, .phase⟩, ⟨3, .phase⟩, ⟨4, .phase⟩, ⟨5, .phase⟩, ⟨6, .phase⟩, ⟨7, .phase⟩, ⟨8, .phase⟩, ⟨9, .phase⟩, ⟨10, .phase⟩, ⟨11, .phase⟩, { on := 12, ground := Ground.textOnly Departure.lateStores }, { on := 13, ground := Ground.textOnly Departure.lateStores }, { on := 14, ground := Ground.textOnly Departure.lateStoresUnsure }, ⟨15, .phase⟩, ⟨16, .phase⟩, { on := 17, ground := Ground.textOnly Departure.lateStores }, { on := 18, ground := Ground.textOnly Departure.lateStores }, { on := 19, ground := Ground.textOnly Departure.lateStoresUnsure }, ⟨20, .phase⟩, ⟨21, .phase⟩], none⟩) (v := ?_) rfl ?_ hHeld1 ?_ (by rfl) (by kernel_rfl) (by kernel_rfl) (by kernel_rfl) (by kernel_rfl) (by kernel_rfl) (fun _ _ _ h => h)
   rotate_left
   ·intro U hSw; (go_simp <;> with_reducible rfl)
   try simp only [Act.put, nz1, nz2, nz3]
   refine storeG (i := 23) (oi := ⟨none, .store 3 (.tmp 92) (.tmp 80), 0, "outright.go:166", #[⟨22, .data⟩, ⟨9, .data⟩, ⟨21, .chain⟩, ⟨0, .phase⟩, ⟨1, .phase⟩, ⟨2, .phase⟩, ⟨3, .phase⟩, ⟨4, .phase⟩, ⟨5, .phase⟩, ⟨6, .phase⟩, ⟨7, .phase⟩, ⟨8, .phase⟩, ⟨9, .phase⟩, ⟨10, .phase⟩, ⟨11, .phase⟩, { on := 12, ground := Ground.textOnly Departure.lateStores }, { on := 13, ground := Ground.textOnly Departure.lateStores }, { on := 14, ground := Ground.textOnly Departure.lateStoresUnsure }, ⟨15, .phase⟩, ⟨16, .phase⟩, { on := 17, ground := Ground.textOnly Departure.lateStores }, { on := 18, ground := Ground.textOnly Departure.lateStores }, { on := 19, ground := Ground.textOnly Departure.lateStoresUnsure }, ⟨20, .phase⟩, ⟨21, .phase⟩], none⟩) rfl (fun K hK => ?_) (by kernel_rfl) (by kernel_rfl)
   rw [if_pos (by rfl)];go_simp;refine hK.out _ _ (HST.out _ _ _ hHeld1) (fun hHeld2 => ?_);clear hK K;try simp only [Act.put, nz1, nz2, nz3]
   refine takeA (i := 24) (oi := ⟨some 93, .fieldAddr 36 (.tmp 11) 5, 0, "outright.go:166", #[⟨0, .phase⟩, ⟨1, .phase⟩, ⟨2, .phase⟩, ⟨3, .phase⟩, ⟨4, .phase⟩, ⟨5, .phase⟩, ⟨6, .phase⟩, ⟨7, .phase⟩, ⟨8, .phase⟩, ⟨9, .phase⟩, ⟨10, .phase⟩, ⟨11, .phase⟩, ⟨12, .phase⟩, ⟨13, .phase⟩, ⟨14, .phase⟩, ⟨15, .phase⟩, ⟨16, .phase⟩, { on := 17, ground := Ground.textOnly Departure.lateStores }, { on := 18, ground := Ground.textOnly Departure.lateStores }, { on := 19, ground := Ground.textOnly Departure.lateStoresUnsure }, ⟨20, .phase⟩, ⟨21, .phase⟩, ⟨22, .phase⟩, ⟨23, .phase⟩], none⟩) (v := ?_) rfl ?_ hHeld2 ?_ (by rfl) (by kernel_rfl) (by kernel_rfl) (by kernel_rfl) (by kernel_rfl) (by kernel_rfl) (fun _ _ _ h => h)
   rotate_left
   ·intro U hSw; (go_simp <;> with_reducible rfl)
   try simp only [Act.put, nz1, nz2, nz3]
   refine storeG (i := 25) (oi := ⟨none, .store 3 (.tmp 93) (.tmp 85), 0, "outright.go:166", #[⟨24, .data⟩, ⟨14, .data⟩, ⟨23, .chain⟩, ⟨0, .phase⟩, ⟨1, .phase⟩, ⟨2, .phase⟩, ⟨3, .phase⟩, ⟨4, .phase⟩, ⟨5, .phase⟩, ⟨6, .phase⟩, ⟨7, .phase⟩, ⟨8, .phase⟩, ⟨9, .phase⟩, ⟨10, .phase⟩, ⟨11, .phase⟩, ⟨12, .phase⟩, ⟨13, .phase⟩, ⟨14, .phase⟩, ⟨15, .phase⟩, ⟨16, .phase⟩, { on := 17, ground := Ground.textOnly Departure.lateStores }, { on := 18, ground := Ground.textOnly Departure.lateStores }, { on := 19, ground := Ground.textOnly Departure.lateStoresUnsure }, ⟨20, .phase⟩, ⟨21, .phase⟩, ⟨22, .phase⟩, ⟨23, .phase⟩], none⟩) rfl (fun K hK => ?_) (by kernel_rfl) (by kernel_rfl)
   rw [if_pos (by rfl)];go_simp;refine hK.out _ _ (HST.out _ _ _ hHeld2) (fun hHeld3 => ?_);clear hK K;try simp only [Act.put, nz1, nz2, nz3]
   refine takeA (i := 26) (oi := ⟨some 94, .fieldAddr 36 (.tmp 11) 6, 0, "outright.go:166", #[⟨0, .phase⟩, ⟨1, .phase⟩, ⟨2, .phase⟩, ⟨3, .phase⟩, ⟨4, .phase⟩, ⟨5, .phase⟩, ⟨6, .phase⟩, ⟨7, .phase⟩, ⟨8, .phase⟩, ⟨9, .phase⟩, ⟨10, .phase⟩, ⟨11, .phase⟩, ⟨12, .phase⟩, ⟨13, .phase⟩, ⟨14, .phase⟩, ⟨15, .phase⟩, ⟨16, .phase⟩, ⟨17, .phase⟩, ⟨18, .phase⟩, ⟨19, .phase⟩, ⟨20, .phase⟩, ⟨21, .phase⟩, ⟨22, .phase⟩, ⟨23, .phase⟩, ⟨24, .phase⟩, ⟨25, .phase⟩], none⟩) (v := ?_) rfl ?_ hHeld3 ?_ (by rfl) (by kernel_rfl) (by kernel_rfl) (by kernel_rfl) (by kernel_rfl) (by kernel_rfl) (fun _ _ _ h => h)
   rotate_left
   ·intro U hSw; (go_simp <;> with_reducible rfl)
   try simp only [Act.put, nz1, nz2, nz3]
   refine storeG (i := 27) (oi := ⟨none, .store 3 (.tmp 94) (.tmp 90), 0, "outright.go:166", #[⟨26, .data⟩, ⟨19, .data⟩, ⟨25, .chain⟩, ⟨0, .phase⟩, ⟨1, .phase⟩, ⟨2, .phase⟩, ⟨3, .phase⟩, ⟨4, .phase⟩, ⟨5, .phase⟩, ⟨6, .phase⟩, ⟨7, .phase⟩, ⟨8, .phase⟩, ⟨9, .phase⟩, ⟨10, .phase⟩, ⟨11, .phase⟩, ⟨12, .phase⟩, ⟨13, .phase⟩, ⟨14, .phase⟩, ⟨15, .phase⟩, ⟨16, .phase⟩, ⟨17, .phase⟩, ⟨18, .phase⟩, ⟨19, .phase⟩, ⟨20, .phase⟩, ⟨21, .phase⟩, ⟨22, .phase⟩, ⟨23, .phase⟩, ⟨24, .phase⟩, ⟨25, .phase⟩], none⟩) rfl (fun K hK => ?_) (by kernel_rfl) (by kernel_rfl);rw [if_pos (by rfl)];go_simp
   refine hK.out _ _ (HST.out _ _ _ hHeld3) (fun hHeld4 => ?_);clear hK K;try simp only [Act.put, nz1, nz2, nz3]
   refine doneG (by kernel_rfl) ?_ _;clear y14 y15 y16 y17 v14 v15 v16 v17 a0 a1 a2 a3 b0 b1 b2 b3 HST HS18 HB18 HC18 hHeld1 hHeld2 hHeld3 hHeld4;go_upto_region 19 with fail;rw [E13.out]
   go_wp2_with (first
    | (refine wpList_load_mid rfl 36 _ rfl p5 0 rfl CX _ HRX.out Tryz.underlying36 rfl HZX.out ?_)
    | (refine wpList_load_mid rfl 36 _ rfl p9 0 rfl C1 _ HR1.out Tryz.underlying36 rfl HZ1.out ?_)
    | (go_at_call 11; with_reducible refine (HSM.out _ (Fr.refl _ _)).mono ?_; rintro e V10 ⟨rfl, K10⟩)
    | fail)
   go_roundg (gk - 512)
   case measure => omega
   case rel => exact ⟨n', a, rfl, by omega, by omega, by omega, _, _, (J6.out).nw K10.out⟩
end Go.Proofs.YtlenihpbhlfcoaaGreatDoor
