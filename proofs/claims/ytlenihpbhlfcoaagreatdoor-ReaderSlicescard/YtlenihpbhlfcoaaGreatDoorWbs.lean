import Derived.Test.YtlenihpbhlfcoaaGreatDoorUbq
import Derived.Test.YtlenihpbhlfcoaaGreatDoorUbr
import Derived.Test.YtlenihpbhlfcoaaGreatDoorUbo
set_option maxHeartbeats 8000000
set_option maxRecDepth 100000
set_option linter.unusedSimpArgs false
set_option linter.unusedVariables false
namespace Go.Proofs.YtlenihpbhlfcoaaGreatDoor
open Go.RowKit Go.Deep
variable {rb ab : Nat} {va : Option Addr} {vc : Nat} {b : List By} {vG : Value} {G : List Pr} {og : Option Nat} {vL : Value} {A : Ah}
theorem isTl_cases {t : By} (h : isTl t = true) : t = 103#8 ∨ t = 120#8 ∨ t = 76#8 ∨ t = 75#8 := by
 unfold isTl at h;rw [Bool.or_eq_true, Bool.or_eq_true, Bool.or_eq_true] at h;rcases h with ((h | h) | h) | h
 ·exact .inl (of_decide_eq_true h)
 ·exact .inr (.inl (of_decide_eq_true h))
 ·exact .inr (.inr (.inl (of_decide_eq_true h)))
 ·exact .inr (.inr (.inr (of_decide_eq_true h)))
theorem qpass_any (w : World) (q : Nat) (hq : q + 512 ≤ b.length) (h : Hr) (hr : Rm (PY rb ab og w) rb va vc b q vG G w) (th : Bool) (fr : Nat) (ha : w.heap[ab]? = some (.cells (ahC th fr vL A) 85)) (hl : OgR RP og vL A.loc w) (hne : rb ≠ ab) (hop : ∀ g, og = some g → g ≠ rb ∧ g ≠ ab) (hz : 0 ≤ h.size ∧ h.size ≤ 9223372036854775807) (ht : isTl h.typ = true) (hGl : G.length ≤ 1024) (hGk : KyB G) (hAl : A.loc.length ≤ 1024) :
  Calls Tryz.prog 38 #[.pointer (some ⟨rb, 0, none⟩), .agg (hdC h (fd b q 512) q), .pointer (some ⟨ab, 0, none⟩)] w (PssA rb ab va vc b vG og th fr q (psR (b.drop q) h G A) w) := by
 by_cases hlong : (1048576 : Int) < h.size
 ·exact qpass_long w q hq h hr th fr ha hl hne hop hz hlong
 by_cases hk : q + 512 + h.size.toNat + padN h.size.toNat ≤ b.length
 ·rcases isTl_cases ht with h1 | h1 | h1 | h1
  ·by_cases he : (prs (fd b (q + 512) h.size.toNat) 0 []).2.2 = 0
   ·by_cases hm : 1024 < (mergeV G (prs (fd b (q + 512) h.size.toNat) 0 []).1).length
    ·exact qpass_g_many w q hq h hr th fr ha hl hne hop hz hlong hk h1 hGl hGk he hm
    ·exact qpass_g_ok w q hq h hr th fr ha hl hne hop hz hlong hk h1 hGl hGk he hm
   ·exact qpass_g_parse w q hq h hr th fr ha hl hne hop hz hlong hk h1 hGl hGk he
  ·by_cases he : (prs (fd b (q + 512) h.size.toNat) 0 []).2.2 = 0
   ·by_cases hm : 1024 < (A.loc ++ (prs (fd b (q + 512) h.size.toNat) 0 []).1).length
    ·exact qpass_x_many w q hq h hr th fr ha hl hne hop hz hlong hk h1 hAl he hm
    ·exact qpass_x_ok w q hq h hr th fr ha hl hne hop hz hlong hk h1 hAl he hm
   ·exact qpass_x_parse w q hq h hr th fr ha hl hne hop hz hlong hk h1 hAl he
  ·exact qpass_name w q hq h hr th fr ha hl hne hop hz hlong hk h1
  ·exact qpass_link w q hq h hr th fr ha hl hne hop hz hlong hk h1
 ·exact qpass_short w q hq h hr th fr ha hl hne hop hz hlong hk
structure OkG (G : List Pr) : Prop where
 len : G.length ≤ 1024
 bnd : ∀ x ∈ G, x.1.length ≤ 1048576 ∧ x.2.length ≤ 1048576
structure OkA (A : Ah) : Prop where
 len : A.loc.length ≤ 1024
 bnd : ∀ x ∈ A.loc, x.1.length ≤ 1048576 ∧ x.2.length ≤ 1048576
 nm : ∀ s, A.name = some s → s.size ≤ 1048576
 lk : ∀ s, A.link = some s → s.size ≤ 1048576
theorem merge_bnd {G l : List Pr} (h1 : ∀ x ∈ G, x.1.length ≤ 1048576 ∧ x.2.length ≤ 1048576) (h2 : ∀ x ∈ l, x.1.length ≤ 1048576 ∧ x.2.length ≤ 1048576) : ∀ x ∈ mergeV G l, x.1.length ≤ 1048576 ∧ x.2.length ≤ 1048576 := fun x hx => by
 have h3 := ((mem_merge G l x).1 hx).1;have h4 : (x.1, x.2) ∈ G ++ l := by first | exact fnd_mem h3 | exact fnd_mem _ _ _ h3
 rcases List.mem_append.1 h4 with h5 | h5
 ·exact h1 _ h5
 ·exact h2 _ h5
theorem txt_len (d : List By) : (str (txt d)).size ≤ d.length := by
 rw [str_size];unfold txt;exact (List.takeWhile_sublist _).length_le
theorem psR_ok {s : List By} {h : Hr} {G : List Pr} {A : Ah} {L : Nat} {g : Bool} {G' : List Pr} {A' : Ah} (hp : psR s h G A = .on L g G' A') (hG : OkG G) (hA : OkA A) : OkG G' ∧ OkA A' := by
 unfold psR at hp;split at hp
 ·cases hp
 rename_i hz;cases hk : tkR s 512 h.size.toNat with
 | none => rw [hk] at hp; cases hp
 | some y =>
  obtain ⟨d, M⟩ := y;rw [hk] at hp;have hdl := tkR_len hk;have hd : d.length ≤ 1048576 := by omega
  have ht := txt_len d;simp only at hp;split at hp
  ·split at hp
   ·cases hp
   rename_i h2;have hf := prs_fit d (by omega);split at hp
   ·cases hp
   rename_i h3;injection hp with e1 e2 e3 e4;subst e3 e4;exact ⟨⟨by omega, merge_bnd hG.bnd (fun x hx => by have := hf.2 x hx; omega)⟩, hA⟩
  split at hp
  ·split at hp
   ·cases hp
   rename_i h2;have hf := prs_fit d (by omega);split at hp
   ·cases hp
   rename_i h3;injection hp with e1 e2 e3 e4;subst e3 e4;exact ⟨hG, ⟨by show (A.loc ++ _).length ≤ 1024; omega, fun x hx => (List.mem_append.1 hx).elim (hA.bnd x) (fun hx => by have := hf.2 x hx; omega), hA.nm, hA.lk⟩⟩
  split at hp
  ·injection hp with e1 e2 e3 e4;subst e3 e4;exact ⟨hG, ⟨hA.len, hA.bnd, fun s hs => by injection hs with hs; subst hs; omega, hA.lk⟩⟩
  ·injection hp with e1 e2 e3 e4;subst e3 e4;exact ⟨hG, ⟨hA.len, hA.bnd, hA.nm, fun s hs => by injection hs with hs; subst hs; omega⟩⟩
theorem psR_same {s : List By} {h : Hr} {G : List Pr} {A : Ah} {L : Nat} {G' : List Pr} {A' : Ah} (hp : psR s h G A = .on L false G' A') : G' = G := by
 unfold psR at hp;split at hp
 ·cases hp
 cases hk : tkR s 512 h.size.toNat with
 | none => rw [hk] at hp; cases hp
 | some y =>
  obtain ⟨d, M⟩ := y;rw [hk] at hp;simp only at hp;split at hp
  ·split at hp
   ·cases hp
   split at hp
   ·cases hp
   injection hp with e1 e2 e3 e4;cases e2
  split at hp
  ·split at hp
   ·cases hp
   split at hp
   ·cases hp
   injection hp with e1 e2 e3 e4;exact e3.symm
  split at hp
  ·injection hp with e1 e2 e3 e4;exact e3.symm
  ·injection hp with e1 e2 e3 e4;exact e3.symm
end Go.Proofs.YtlenihpbhlfcoaaGreatDoor
namespace Go.Proofs.YtlenihpbhlfcoaaGreatDoor
inductive Res where
 | fin (p : Nat) (G : List Pr)
 | bad (p e : Nat) (G : List Pr)
 | more (x : It) (p : Nat) (G : List Pr)
def plI (x : It) (p : Nat) (fr : Option Nat) : It := { x with frm := fr.getD p, head := p, data := p + x.data, next := p + x.next }
def nx (b : List By) (p : Nat) (G : List Pr) (A : Ah) (fr : Option Nat) : Res :=
 match hc : cor (b.drop p) G A with
 | .fin => (match fr with
  | none => .fin p G
  | some f => .bad f 160 G)
 | .bad q e => .bad (p + q) e G
 | .on L g G' A' => nx b (p + L) G' A' (if g = true then fr else some (fr.getD p))
 | .got x L => .more (plI x p fr) (p + L) G
termination_by b.length - p
decreasing_by
 have h := cor_on hc;have h2 := h.2.2.1;rw [List.length_drop] at h2;omega
theorem nx_fin {b : List By} {p : Nat} {G : List Pr} {A : Ah} {fr : Option Nat} (h : cor (b.drop p) G A = .fin) : nx b p G A fr = (match fr with | none => .fin p G | some f => .bad f 160 G) := by
 rw [nx.eq_def];split <;> rename_i hc
 ·rfl
 all_goals (rw [h] at hc; cases hc)
theorem nx_bad {b : List By} {p : Nat} {G : List Pr} {A : Ah} {fr : Option Nat} {q e : Nat} (h : cor (b.drop p) G A = .bad q e) : nx b p G A fr = .bad (p + q) e G := by
 rw [nx.eq_def];split <;> rename_i hc
 all_goals (rw [h] at hc; cases hc)
 rfl
theorem nx_on {b : List By} {p : Nat} {G : List Pr} {A : Ah} {fr : Option Nat} {L : Nat} {g : Bool} {G' : List Pr} {A' : Ah} (h : cor (b.drop p) G A = .on L g G' A') : nx b p G A fr = nx b (p + L) G' A' (if g = true then fr else some (fr.getD p)) := by
 rw [nx.eq_def];split <;> rename_i hc
 all_goals (rw [h] at hc; cases hc)
 rfl
theorem nx_got {b : List By} {p : Nat} {G : List Pr} {A : Ah} {fr : Option Nat} {x : It} {L : Nat} (h : cor (b.drop p) G A = .got x L) : nx b p G A fr = .more (plI x p fr) (p + L) G := by
 rw [nx.eq_def];split <;> rename_i hc
 all_goals (rw [h] at hc; cases hc)
 rfl
theorem nx_more {b : List By} : ∀ (k : Nat) {p : Nat} {G : List Pr} {A : Ah} {fr : Option Nat} {x : It} {a : Nat} {G' : List Pr}, b.length - p ≤ k → nx b p G A fr = .more x a G' →
  ∃ hd A2 fr2 x0 L, p ≤ hd ∧ hd % 512 = p % 512 ∧ cor (b.drop hd) G' A2 = .got x0 L ∧ x = plI x0 hd fr2 ∧ a = hd + L ∧ (∀ f, fr = some f → fr2 = some f) ∧ (fr = none → p ≤ fr2.getD hd ∧ fr2.getD hd ≤ hd ∧ fr2.getD hd % 512 = p % 512) := by
 intro k
 induction k with
 | zero =>
  intro p G A fr x a G' hk h;have hd0 : b.drop p = [] := List.drop_eq_nil_of_le (by omega);have hc : cor (b.drop p) G A = .fin := by rw [hd0]; rfl
  rw [nx_fin hc] at h;cases fr <;> cases h
 | succ k ih =>
  intro p G A fr x a G' hk h;cases hc : cor (b.drop p) G A with
  | fin => rw [nx_fin hc] at h; cases fr <;> cases h
  | bad q e => rw [nx_bad hc] at h; cases h
  | got x0 L =>
   rw [nx_got hc] at h;injection h with h1 h2 h3;subst h1 h2 h3;exact ⟨p, A, fr, x0, L, Nat.le_refl _, rfl, hc, rfl, rfl, fun f hf => hf, fun hf => by rw [hf]; exact ⟨Nat.le_refl _, Nat.le_refl _, rfl⟩⟩
  | on L g G2 A2 =>
   obtain ⟨l1, l2, l3, _⟩ := cor_on hc;rw [List.length_drop] at l3;rw [nx_on hc] at h;obtain ⟨hd, A3, fr3, x0, M, r1, r2, r3, r4, r5, r6, r7⟩ := ih (by omega) h;refine ⟨hd, A3, fr3, x0, M, by omega, by omega, r3, r4, r5, fun f hf => ?_, fun hf => ?_⟩
   ·cases g with
    | true => exact r6 f (by simp [hf])
    | false => exact r6 f (by simp [hf])
   ·cases g with
    | true =>
     have := r7 (by simp [hf]);omega
    | false =>
     have h2 := r6 p (by simp [hf]);rw [h2];simp;omega
theorem nx_end {b : List By} {p : Nat} {G : List Pr} {A : Ah} {fr : Option Nat} {x : It} {a : Nat} {G' : List Pr} (h : nx b p G A fr = .more x a G') : p + 512 ≤ a ∧ a ≤ b.length ∧ a % 512 = p % 512 := by
 obtain ⟨hd, A2, fr2, x0, L, r1, r2, r3, _, r5, _⟩ := nx_more _ (Nat.le_refl _) h;obtain ⟨l1, l2, l3, _⟩ := cor_got r3;rw [List.length_drop] at l3;omega
def shI (k : Nat) (x : It) : It := { x with frm := k + x.frm, head := k + x.head, data := k + x.data, next := k + x.next }
def rdR (b : List By) (p : Nat) (G : List Pr) : List It × Nat × Nat × List Pr :=
 match hc : nx b p G ah0 none with
 | .fin a G' => ([], a, 0, G')
 | .bad a e G' => ([], a, e, G')
 | .more x a G' => (x :: (rdR b a G').1, (rdR b a G').2)
termination_by b.length - p
decreasing_by
 all_goals
  have h := nx_end hc;omega
theorem rdR_fin {b : List By} {p : Nat} {G : List Pr} {a : Nat} {G' : List Pr} (h : nx b p G ah0 none = .fin a G') : rdR b p G = ([], a, 0, G') := by
 rw [rdR];split <;> rename_i hc
 all_goals (rw [h] at hc; cases hc)
 rfl
theorem rdR_bad {b : List By} {p : Nat} {G : List Pr} {a e : Nat} {G' : List Pr} (h : nx b p G ah0 none = .bad a e G') : rdR b p G = ([], a, e, G') := by
 rw [rdR];split <;> rename_i hc
 all_goals (rw [h] at hc; cases hc)
 rfl
theorem rdR_more {b : List By} {p : Nat} {G : List Pr} {x : It} {a : Nat} {G' : List Pr} (h : nx b p G ah0 none = .more x a G') : rdR b p G = (x :: (rdR b a G').1, (rdR b a G').2) := by
 rw [rdR];split <;> rename_i hc
 all_goals (rw [h] at hc; cases hc)
 rfl
end Go.Proofs.YtlenihpbhlfcoaaGreatDoor
namespace Go.Proofs.YtlenihpbhlfcoaaGreatDoor
open Go.RowKit Go.Deep
def NxA (Z : Nat → Prop) (rb : Nat) (va : Option Addr) (vc : Nat) (b : List By) (r : Res) (w : World) (e : Ending) (w' : World) : Prop :=
 match r with
 | .fin a G' => ∃ vG', e = .returned (.tuple #[.agg ziC, .bool false]) ∧ Hid (Fr (fun k => k = rb) w w' ∧ RL rb va vc b a vG' G' w' ∧ OkG G' ∧ SlR RP Z vG' G' w')
 | .bad a E G' => e = gvR ((a : Nat) : Int) ((E : Nat) : Int) ∧ ∃ vG', Fr (fun k => k = rb) w w' ∧ Alv rb va vc b vG' w' ∧ SlR RP (fun k => k = rb ∨ w'.heap.size ≤ k) vG' G' w' ∧ OkG G'
 | .more x a G' => ∃ vM vP vG', e = .returned (.tuple #[.agg (icC x x.size x.frm x.head x.data x.next vM vP), .bool true]) ∧ Hid (Fr (fun k => k = rb) w w' ∧ RL rb va vc b a vG' G' w' ∧ OkG G' ∧ MpN w vM x.map w' ∧ NewP w vP x.pairs w' ∧ (∃ a n c, vP = .slice a n c) ∧ SlR RP Z vG' G' w')
structure Nx (Z : Nat → Prop) (w : World) (rb ab ib : Nat) (va : Option Addr) (vc : Nat) (b : List By) (p : Nat) (vG : Value) (G : List Pr) (A : Ah) (fo : Option Nat) (vL : Value) (og : Option Nat) (V : World) : Prop where
 fr : Fr (fun k => k = rb) w V
 rm : Rm (PY rb ab og V) rb va vc b p vG G V
 ar : V.heap[ab]? = some (.cells (ahC fo.isSome ((fo.getD 0 : Nat) : Int) vL A) 85)
 it : V.heap[ib]? = some (.cells ziC 36)
 lo : OgR RP og vL A.loc V
 op : ∀ g, og = some g → w.heap.size ≤ g ∧ g ≠ ab ∧ g ≠ ib
 le : rb < w.heap.size ∧ w.heap.size ≤ ab ∧ w.heap.size ≤ ib ∧ ab ≠ ib
 ok : OkG G
 oa : OkA A
 bi : Sl (fun k => k = rb ∨ w.heap.size ≤ k) (.slice va b.length vc) b V
 vi : SlR RP (fun k => Z k ∨ k = ib ∨ PY rb ab og V k) vG G V
 zk : ∀ k, Z k → k < w.heap.size
section
variable {Z : Nat → Prop} {w V U : World} {rb ab ib : Nat} {va : Option Addr} {vc : Nat} {b : List By} {p : Nat} {vG : Value} {G : List Pr} {A : Ah} {fo : Option Nat} {vL : Value} {og : Option Nat}
theorem Nx.nw (h : Nx Z w rb ab ib va vc b p vG G A fo vL og V) (k : Nw V U) : Nx Z w rb ab ib va vc b p vG G A fo vL og U := by
 have hs := ge_of k;have hm : ∀ g, PY rb ab og U g → PY rb ab og V g := fun g hg => by
  rcases hg with hg | hg | hg | hg
  ·exact .inl hg
  ·exact .inr (.inl hg)
  ·exact .inr (.inr (.inl hg))
  ·exact .inr (.inr (.inr (by omega)))
 have r := h.rm.nw k;exact ⟨h.fr.trans k.any, ⟨r.row, r.sl.mono hm, r.gl.mono hm, .inl rfl, r.pl, r.bl⟩, Nw.heap k h.ar, Nw.heap k h.it, h.lo.nw k, h.op, h.le, h.ok, h.oa, h.bi.nw k, (h.vi.nw k).mono (fun g hg => hg.elim .inl (fun hg => .inr (hg.elim .inl (fun hg => .inr (hm g hg))))), h.zk⟩
theorem Nx.rl (h : Nx Z w rb ab ib va vc b p vG G A fo vL og V) : RL rb va vc b p vG G V :=
 ⟨h.rm.row, h.rm.sl.mono (fun g hg => hg.elim .inl (fun hg => .inr (.inr (.inr hg)))), h.rm.gl.mono (fun g hg => hg.elim .inl (fun hg => .inr (.inr (.inr hg)))), .inl rfl, h.rm.pl, h.rm.bl⟩
theorem Nx.out (h : Nx Z w rb ab ib va vc b p vG G A fo vL og V) : SlR RP (fun k => k = rb ∨ V.heap.size ≤ k) vG G V := h.rl.gl
end
theorem SlR.both {X Y : Nat → Prop} {v : Value} {l : List Pr} {w : World} (h1 : SlR RP X v l w) (h2 : SlR RP Y v l w) : SlR RP (fun k => X k ∨ Y k) v l w := by
 rcases h1 with h1 | ⟨g, o, c, a1, rfl, a3⟩
 ·exact .inl h1
 rcases h2 with ⟨a, e, el⟩ | ⟨g2, o2, c2, b1, b2, b3⟩
 ·injection e with e1 e2 e3;exact .inl ⟨_, by rw [e2, e3], el⟩
 ·injection b2 with e1 e2 e3;injection e1 with e1;injection e1 with e4 e5 e6;subst e4;exact .inr ⟨g, o, c, fun h => h.elim a1 b1, rfl, a3⟩
theorem nx_start {w : World} {rb : Nat} {va : Option Addr} {vc : Nat} {b : List By} {p : Nat} {vG : Value} {G : List Pr} (hr : RL rb va vc b p vG G w) (hG : OkG G) {Z : Nat → Prop} (hz : SlR RP Z vG G w) (hZ : ∀ k, Z k → k < w.heap.size) : Nx Z w rb (w.heap.size + 1) w.heap.size va vc b p vG G ah0 none (.slice none 0 0) none ((w.alloc (.cells ziC 36)).alloc (.cells (ahC false 0 (.slice none 0 0) ah0) 85)) := by
 have k : Nw w ((w.alloc (.cells ziC 36)).alloc (.cells (ahC false 0 (.slice none 0 0) ah0) 85)) := ((Fr.refl _ _).alloc _).alloc _;have e : (w.alloc (.cells ziC 36)).heap.size = w.heap.size + 1 := by simp
 have r := Rm.nw hr k;have hlt := Rm.lt hr;have hsz := ge_of k;have hm : ∀ g, PY rb (w.heap.size + 1) none ((w.alloc (.cells ziC 36)).alloc (.cells (ahC false 0 (.slice none 0 0) ah0) 85)) g → g = rb ∨ w.heap.size ≤ g := fun g hg => by
  rcases hg with hg | hg | hg | hg
  ·exact .inl hg
  ·exact .inr (by omega)
  ·cases hg
  ·exact .inr (by omega)
 refine ⟨k.any, ⟨r.row, r.sl.mono hm, r.gl.mono hm, .inl rfl, r.pl, r.bl⟩, ?_, ?_, ⟨rfl, rfl⟩, (fun g hg => by cases hg), ⟨hlt, by omega, Nat.le_refl _, by omega⟩, hG, ⟨Nat.zero_le _, (fun x hx => by cases hx), (fun s hs => by cases hs), (fun s hs => by cases hs)⟩, r.sl, ((hz.nw k).both r.gl).mono (fun g hg => hg.elim .inl (fun hg => .inr (hg.elim (fun hg => .inr (by omega)) (hm g)))), hZ⟩
 ·rw [← e]; exact newHeap _ _
 ·exact Nw.heap ((Fr.refl _ _).alloc _) (newHeap _ _)
end Go.Proofs.YtlenihpbhlfcoaaGreatDoor
namespace Go.Proofs.YtlenihpbhlfcoaaGreatDoor
open Go.RowKit
theorem nmN_le (b : List By) : nmN b ≤ 9223372036854775807 := by
 unfold nmN;split
 ·unfold binN;split
  ·split
   ·rename_i h;unfold inI at h;exact (of_decide_eq_true h).2
   ·omega
  ·omega
 ·have h := octN_mx b;unfold mx at h;omega
theorem nbE_pos {b : List By} {o n : Nat} (h : nbE b o n false = 0) : 0 ≤ nmN (fd b o n) := by
 unfold nbE at h;split at h
 ·split at h
  ·rename_i h2;rcases h2 with h2 | h2
   ·exact h2
   ·cases h2
  ·cases h
 ·rename_i h2; exact absurd h h2
theorem scN_mem (b : List By) (f : Nat) : ∀ (l : List (Nat × Nat × Bool)), (scN b f l).2 = 0 → ∀ x ∈ l, x.1 < fE f → nbE b x.1 x.2.1 x.2.2 = 0
 | [], _, x, hx, _ => by cases hx
 | (o, n, bl) :: l, h, x, hx, ho => by
  unfold scN at h;split at h
  ·rename_i h2; exact absurd h h2.2
  ·rename_i h2;rcases List.mem_cons.1 hx with h3 | h3
   ·subst h3;exact Classical.byContradiction (fun h4 => h2 ⟨ho, h4⟩)
   ·exact scN_mem b f l h x h3 ho
theorem dT_size (b : List By) (f i k o n : Nat) : (dT b f i k o n).size ≤ n := by
 unfold dT;split
 ·rw [str_size];unfold txt;have h := (List.takeWhile_sublist (fun c => decide (c ≠ 0#8)) (l := fd b o n)).length_le;have h2 : (fd b o n).length ≤ n := by unfold fd; rw [List.length_take]; omega
  first
   | exact Nat.le_trans h h2
   | exact Nat.le_trans ((List.takeWhile_sublist _).length_le) h2
 ·exact Nat.zero_le _
theorem dec_bnd {R : List By} (h : decE R = 0) : (0 ≤ (decH R).uid ∧ (decH R).uid ≤ 9223372036854775807) ∧ (0 ≤ (decH R).gid ∧ (decH R).gid ≤ 9223372036854775807) ∧ (0 ≤ (decH R).size ∧ (decH R).size ≤ 9223372036854775807) ∧ (decH R).pfx.size + 1 + (decH R).name.size ≤ 1048576 := by
 have e : decH R = dH R (mgOf R) 5 7 := by unfold decH; rw [if_pos h]
 have hs : (scN R (mgOf R) nF).2 = 0 := by
  unfold decE at h;split at h
  ·split at h
   ·cases h
   ·exact h
  ·cases h
 have hf := fE_ge (mgOf R);have hm := scN_mem R (mgOf R) nF hs;have num : ∀ j o n, j < 7 → (o, n, false) ∈ nF → o < 257 → 0 ≤ dN R (mgOf R) 7 j o n ∧ dN R (mgOf R) 7 j o n ≤ 9223372036854775807 := fun j o n hj hx ho => by
  unfold dN;rw [if_pos ⟨hj, by omega⟩];exact ⟨nbE_pos (hm _ hx (by show o < _; omega)), nmN_le _⟩
 rw [e];refine ⟨num 1 108 8 (by omega) (by decide) (by omega), num 2 116 8 (by omega) (by decide) (by omega), num 3 124 12 (by omega) (by decide) (by omega), ?_⟩;have h1 := dT_size R (mgOf R) 5 4 345 155;have h2 := dT_size R (mgOf R) 5 0 0 100;show (dT R (mgOf R) 5 4 345 155).size + 1 + (dT R (mgOf R) 5 0 0 100).size ≤ 1048576;omega
end Go.Proofs.YtlenihpbhlfcoaaGreatDoor
namespace Go.Proofs.YtlenihpbhlfcoaaGreatDoor
open Go.RowKit Go.Deep
theorem hdP_bnd {G : List Pr} {A : Ah} (h1 : OkG G) (h2 : OkA A) : ∀ x ∈ hdP G A, x.1.length ≤ 1048576 ∧ x.2.length ≤ 1048576 := by
 unfold hdP;split
 ·exact h1.bnd
 ·exact merge_bnd h1.bnd h2.bnd
theorem vlB_of {G : List Pr} {A : Ah} (h1 : OkG G) (h2 : OkA A) : VlB (hdP G A) := fun x hx => by
 have := hdP_bnd h1 h2 x hx;omega
theorem kyB_of {G : List Pr} {A : Ah} (h1 : OkG G) (h2 : OkA A) : KyB (G ++ A.loc) := fun x hx => by
 rcases List.mem_append.1 hx with h | h
 ·have := h1.bnd x h; omega
 ·have := h2.bnd x h; omega
theorem kyB_g {G : List Pr} (h1 : OkG G) : KyB G := fun x hx => by have := h1.bnd x hx; omega
theorem nmF_size (h : Hr) : (nmF h).size ≤ h.pfx.size + 1 + h.name.size := by
 unfold nmF;split
 ·omega
 ·have e1 : sl1.size = 1 := by first | rfl | decide
  rw [ByteArray.size_append, ByteArray.size_append, e1];omega
theorem path_size {G : List Pr} {A : Ah} (h1 : OkG G) (h2 : OkA A) (h : Hr) (hn : h.pfx.size + 1 + h.name.size ≤ 1048576) : (txP14 (hdP G A) kPath (A.name.getD (nmF h))).size ≤ 140737488351232 := by
 unfold txP14;split
 ·rename_i v hv;have h5 : (kPath, v) ∈ hdP G A := by first | exact fnd_mem hv | exact fnd_mem _ _ _ hv
  have h3 := hdP_bnd h1 h2 _ h5;rw [str_size];have h4 : v.length ≤ 1048576 := h3.2;omega
 ·cases hA : A.name with
  | none =>
   have := nmF_size h;show (nmF h).size ≤ _;omega
  | some s =>
   have := h2.nm s hA;show s.size ≤ _;omega
end Go.Proofs.YtlenihpbhlfcoaaGreatDoor
namespace Go.Proofs.YtlenihpbhlfcoaaGreatDoor
theorem bdR_plc {s : List By} {h : Hr} {P : List Pr} {x y : It} {l : List Rg} {w : Int} {o L : Nat} (hp : bdR s h P x l w o = .got y L) : y.data = o ∧ y.next = L ∧ y.held = x.held ∧ L = o + x.held + padN x.held := by
 unfold bdR at hp;cases hk : tkR s o x.held with
 | none => rw [hk] at hp; cases hp
 | some z =>
  obtain ⟨d, M⟩ := z;rw [hk] at hp;simp only at hp;obtain ⟨k1, k2, k3⟩ := tkR_some hk
  repeat' split at hp
  all_goals first
   | (cases hp; done)
   | (injection hp with h1 h2; subst h1 h2; exact ⟨rfl, rfl, rfl, k2⟩)
theorem enR_plc {s : List By} {h : Hr} {G : List Pr} {A : Ah} {y : It} {L : Nat} (hp : enR s h G A = .got y L) : 512 ≤ y.data ∧ y.data % 512 = 0 ∧ y.next = L ∧ L = y.data + y.held + padN y.held := by
 unfold enR at hp;split at hp
 ·cases hp
 split at hp
 ·cases hp
 split at hp
 ·cases hp
 split at hp
 ·cases hp
 split at hp
 ·split at hp
  ·cases hp
  ·split at hp
   ·cases hp
   ·rename_i hom;obtain ⟨q1, q2, _⟩ := omR_ok _ (Nat.le_refl _) (by omega) hom;obtain ⟨r1, r2, r3, r4⟩ := bdR_plc hp;rw [r1, r3]; exact ⟨by omega, q2, r2, r4⟩
 ·obtain ⟨r1, r2, r3, r4⟩ := bdR_plc hp;rw [r1, r3]; exact ⟨by omega, by omega, r2, r4⟩
theorem cor_plc {s : List By} {G : List Pr} {A : Ah} {y : It} {L : Nat} (hp : cor s G A = .got y L) : 512 ≤ y.data ∧ y.data % 512 = 0 ∧ y.next = L ∧ L = y.data + y.held + padN y.held := by
 unfold cor at hp
 repeat' split at hp
 all_goals first
  | (cases hp; done)
  | exact absurd hp psR_not
  | exact enR_plc hp
structure Plc (b : List By) (p : Nat) (x : It) (a : Nat) : Prop where
 frm : p ≤ x.frm
 head : x.frm ≤ x.head
 data : x.head < x.data
 next : x.data ≤ x.next
 fit : x.next ≤ b.length
 end_ : x.next = a
 m1 : x.frm % 512 = p % 512
 m2 : x.head % 512 = p % 512
 m3 : x.data % 512 = p % 512
 m4 : x.next % 512 = p % 512
 h1 : x.held ≤ x.next - x.data
 h2 : x.next - x.data < x.held + 512
theorem nx_plc {b : List By} {p : Nat} {G : List Pr} {x : It} {a : Nat} {G' : List Pr} (h : nx b p G ah0 none = .more x a G') : Plc b p x a := by
 obtain ⟨hd, A2, fr2, x0, L, r1, r2, r3, r4, r5, _, r7⟩ := nx_more _ (Nat.le_refl _) h;obtain ⟨f1, f2, f3⟩ := r7 rfl;obtain ⟨l1, l2, l3, _⟩ := cor_got r3;obtain ⟨c1, c2, c3, c4⟩ := cor_plc r3;rw [List.length_drop] at l3;have hpd : padN x0.held < 512 := by unfold padN; omega
 have hpm := pad_mod x0.held;subst r4 r5;refine ⟨f1, f2, ?_, ?_, ?_, ?_, f3, r2, ?_, ?_, ?_, ?_⟩ <;> simp only [plI] <;> omega
end Go.Proofs.YtlenihpbhlfcoaaGreatDoor
