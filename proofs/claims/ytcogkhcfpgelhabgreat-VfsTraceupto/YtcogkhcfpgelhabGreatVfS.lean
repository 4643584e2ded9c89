import Derived.Test.YtcogkhcfpgelhabGreatVfR
import Derived.Laws.CopyOwn
namespace Go.Proofs.YtcogkhcfpgelhabGreat
open Go.RowKit
set_option linter.unusedVariables false
set_option maxRecDepth 100000
variable {fb mb : Nat} {ot : Option Nat} {L : Int → Lay} {h : Hx} {q : Int → Option Pn} {cnt : Nat} {T : List Ac} {w w' : World} {X : Nat → Prop}
def cpyV (tys : Array TypeId) (ty : TypeId) (args : Array Value) : Sem Value := Builtin.copy_ tys ty args
theorem cpyV_fold (tys : Array TypeId) (ty : TypeId) (args : Array Value) : Builtin.copy_ tys ty args = cpyV tys ty args := rfl
/-- Bytes laid over others. -/
def ovl (l : List By) (A : Nat) (b : List By) : List By := l.take A ++ b ++ l.drop (A + b.length)
theorem ovl_len (l : List By) (A : Nat) (b : List By) (h : A + b.length ≤ l.length) : (ovl l A b).length = l.length := by
  unfold ovl
  simp
  omega
theorem sizeB : (Tryz.prog.info? 5).map (·.size) = some 1 := by kernel_rfl
theorem cpy_data (g : Nat) (l : List By) (c : Nat) (hO : Ow g (.slice (some ⟨g, 0, none⟩) l.length c) l w) (A : Nat) (b : List By) (hA : A + b.length ≤ l.length) (ad : Addr) (cb : Nat) (hb : Sl (fun _ => False) (.slice (some ad) b.length cb) b w) :
    ∃ W, (∀ ty, (cpyV #[38, 38] ty #[.slice (some ⟨g, A, none⟩) (l.length - A) (c - A), .slice (some ad) b.length cb]).run Tryz.prog w = .ok (.int .i64 b.length) W) ∧ Ow g (.slice (some ⟨g, 0, none⟩) l.length c) (ovl l A b) W ∧ Fr (fun k => k = g) w W := by
  obtain ⟨xs, e, h2, h3, h4, h5⟩ := hO
  injection e with _ _ e
  subst e
  have hsrc : ∀ j v, (b.map bv)[j]? = some v → w.cell? (ad.add j) = some v := fun j v hj => by
    rcases hb with ⟨a', e, rfl⟩ | ⟨g', _, o, c', e, _, _, hr⟩
    · simp at hj
    · injection e with e
      injection e with e
      subst e
      rw [add_addr]
      simp only [List.getElem?_map, Option.map_eq_some_iff] at hj
      obtain ⟨x, hx, rfl⟩ := hj
      exact hr.at j x hx
  have hrun := fun ty => run_copy_row (P := Tryz.prog) w 38 38 ty 5 g A (l.length - A) (xs.length - A) ad b.length cb (xs.map bv).toArray 5 (b.map bv) Tryz.underlying38 sizeB h5 (by rw [List.length_map]; exact (Nat.min_eq_left (by omega)).symm) hsrc (by simp; omega) (bv_one _)
  refine ⟨w.setRow g ((xs.map bv).toArray.toList.take A ++ b.map bv ++ (xs.map bv).toArray.toList.drop (A + b.length)).toArray, fun ty => ?_, ?_, (Fr.refl _ _).setRow _ _ (.inl rfl)⟩
  · have := hrun ty
    rw [List.length_map] at this
    exact this
  · refine ⟨xs.take A ++ b ++ xs.drop (A + b.length), ?_, ?_, ?_, ?_, ?_⟩
    · rw [ovl_len l A b hA]
      congr 1
      simp; omega
    · rw [ovl_len l A b hA]
      unfold ovl
      have e1 : l.take A = xs.take A := by rw [← h2, List.take_take, Nat.min_eq_left (by omega)]
      have e2 : l.drop (A + b.length) = (xs.drop (A + b.length)).take (l.length - (A + b.length)) := by rw [← List.drop_take, h2]
      have el : l.length = (xs.take A ++ b).length + (l.length - (A + b.length)) := by simp; omega
      rw [el, List.take_append, List.take_of_length_le (by omega), e1, e2]
      simp
    · rw [ovl_len l A b hA]; simp; omega
    · simp; omega
    · have := setRow_heap w g _ ((xs.map bv).toArray.toList.take A ++ b.map bv ++ (xs.map bv).toArray.toList.drop (A + b.length)).toArray 5 _ h5
      show _ = _
      rw [this]
      congr 2
      simp [List.map_take, List.map_drop]
/-- The data written over. -/
theorem cpy_set (H : FsH fb mb ot L h q cnt T w) {k : Int} {p : Pn} (hk : q k = some p) {g : Nat} (hg : (L k).od = some g) {W : World} (f : Fr (fun b => b = g) w W) {d' : List By} {v : Value} (hv : w.cell? ⟨(L k).ib, 6, none⟩ = some v) (hO : OgB (some g) v d' W) :
    FsH fb mb ot L h (fun j => if j = k then some { p with data := d' } else q j) cnt T W := by
  obtain ⟨dv, ev, k1, k2, k3, k4⟩ := (H.nd k p hk).blk
  have tg' := H.tod hk g hg
  refine H.turnS hk (p' := { p with data := d' }) rfl f (fun b e => .inr (.inr (by rw [hg, e]))) ⟨dv, ev, f.heap k1 (fun e => ?_), ?_, fun hk1 => ⟨(k3 hk1).1, (k3 hk1).2.kept f (fun e => ?_)⟩, k4⟩
  · rw [← e, tg_cells k1] at tg'; cases tg'
  · rw [hg]
    have := (ndc_of k1).c6
    rw [hv] at this
    injection this with this
    rw [← this]
    exact hO
  · have := (k3 hk1).2.tg
    rw [e, tg'] at this; cases this
/-- The layout may have turned in the data of one inode. -/
theorem MutO.ofL {h' : Hx} {q' : Int → Option Pn} {cnt' : Nat} {T' : List Ac} {w7 : World} {ot' : Option Nat} {L' : Int → Lay} {n : Int} (hL : LayTo L L' n w) (hsub : ∀ k p, q' k = some p → ∃ p', q k = some p' ∧ p'.kind = p.kind) (f : Fr X w w7) (hX : ∀ k, X k → Bk fb mb ot L q k ∨ w.heap.size ≤ k) (H8 : FsH fb mb ot' L' h' q' cnt' T' w') (f8 : Fr (fun k => k = fb ∨ ot = some k) w7 w') (ho : ot' = ot ∨ ∃ g, ot' = some g ∧ w7.heap.size ≤ g) : MutO fb mb ot L q h' q' cnt' T' w w' := by
  refine ⟨ot', L', H8, ?_, fun k hk8 => ?_⟩
  · have g1 : Fr (Bk fb mb ot L q) w w7 := f.mono hX
    exact g1.trans (f8.mono (fun i hi => by
      rcases hi with rfl | hi
      · exact .inl (.inl rfl)
      · exact .inl (.inr (.inr (.inl hi)))))
  · have hs7 := f.size
    rcases hk8 with rfl | rfl | hk8 | ⟨n, p, hp, hk8⟩
    · exact .inl (.inl rfl)
    · exact .inl (.inr (.inl rfl))
    · rcases ho with e | ⟨g, e, hg⟩
      · exact .inl (.inr (.inr (.inl (e ▸ hk8))))
      · rw [e] at hk8; injection hk8 with hk8; exact .inr (by omega)
    · obtain ⟨p', hp', hkp⟩ := hsub n p hp
      obtain ⟨l1, l2, l3⟩ := hL n
      rcases hk8 with rfl | ⟨hk1, rfl⟩ | hk8
      · exact .inl (.inr (.inr (.inr ⟨n, p', hp', .inl l1⟩)))
      · exact .inl (.inr (.inr (.inr ⟨n, p', hp', .inr (.inl ⟨hkp.trans hk1, l2⟩)⟩)))
      · rcases l3 k hk8 with e | e
        · exact .inl (.inr (.inr (.inr ⟨n, p', hp', .inr (.inr e)⟩)))
        · exact .inr e
/-- What Resize answers. -/
def rszE (h : Hx) (q : Int → Option Pn) (n size : Int) : Int := match q n with
  | none => 100
  | some p => if size < 0 ∨ 4194304 < size then 1 else if p.kind ≠ 2 then 106 else if h.bytes - h.held < size - (p.data.length : Int) then 105 else 0
def RsO (fb mb : Nat) (ot : Option Nat) (L : Int → Lay) (h : Hx) (q : Int → Option Pn) (cnt : Nat) (T : List Ac) (n size : Int) (w : World) (e : Ending) (w' : World) : Prop :=
  (rszE h q n size ≠ 0 ∧ e = .returned (.int .i64 (rszE h q n size)) ∧ Nw w w') ∨
  (rszE h q n size = 0 ∧ e = .returned (.int .i64 0) ∧ ∃ p, q n = some p ∧ MutO fb mb ot L q (rszH h p size.toNat) (fun j => if j = n then some (rszP p size.toNat) else q j) cnt (T ++ [⟨6, 0, [], n, 0, [], 0, size⟩]) w w')
theorem upd_sub {n : Int} {p p' : Pn} (hn : q n = some p) (hk : p'.kind = p.kind) : ∀ k x, (if k = n then some p' else q k) = some x → ∃ y, q k = some y ∧ y.kind = x.kind := fun k x hx => by
  by_cases hkn : k = n
  · rw [if_pos hkn] at hx
    injection hx with hx
    exact ⟨p, by rw [hkn]; exact hn, by rw [← hx]; exact hk.symm⟩
  · rw [if_neg hkn] at hx
    exact ⟨x, hx, rfl⟩
set_option maxHeartbeats 8000000 in
theorem resizeF_any (H : FsH fb mb ot L h q cnt T w) (hT : T.length ≤ 2000000000000) (n : Int) (hn64 : I64 n) (size : Int) (hd : ∀ p, q n = some p → p.data.length ≤ 4194304) (hh : 0 ≤ h.held ∧ h.held ≤ 1000000000000) (hb : 0 ≤ h.bytes ∧ h.bytes ≤ 1000000000000) :
    Calls Tryz.prog 35 #[.pointer (some ⟨fb, 0, none⟩), .int .i64 n, .int .i64 size] w (RsO fb mb ot L h q cnt T n size w) := by
  obtain ⟨P, hP⟩ : ∃ P : Ending → World → Prop, P = RsO fb mb ot L h q cnt T n size w := ⟨_, rfl⟩
  rw [← hP]
  have HFE : Hid (∀ er V, er ≠ 0 → rszE h q n size = er → Nw w V → P (.returned (.int .i64 er)) V) := fun er V h1 h2 hV => by
    rw [hP]
    subst h2
    exact .inl ⟨h1, rfl, hV⟩
  have c0 := H.cs.c0
  rcases option_none_iff (q n) with hqn | ⟨p, hqn⟩
  · have hl := H.look_none hn64 hqn
    have e1 : rszE h q n size = 100 := by unfold rszE; rw [hqn]
    have HF := tHid (HFE.out 100 w (by decide) e1 (Fr.refl _ _))
    clear H hP HFE
    go_enter Tryz.func35, Tryz.ntmps35
    go_wp2_with fail
    exact HF.out
  · have hl := H.look_some hn64 hqn
    have e0 : rszE h q n size = if size < 0 ∨ 4194304 < size then 1 else if p.kind ≠ 2 then 106 else if h.bytes - h.held < size - (p.data.length : Int) then 105 else 0 := by unfold rszE; rw [hqn]
    obtain ⟨dv, ev, hC⟩ := H.anyC hqn
    have x0 := hC.c0
    by_cases hs1 : size < 0 ∨ 4194304 < size
    · have HF := tHid (HFE.out 1 w (by decide) (by rw [e0, if_pos hs1]) (Fr.refl _ _))
      clear H hP HFE e0 hC
      generalize (L n).ib = ib at *
      by_cases hs2 : size < 0
      · have hsd := decide_eq_true hs2
        go_enter Tryz.func35, Tryz.ntmps35
        go_wp2_with fail
        exact HF.out
      · have hsd := decide_eq_false hs2
        have hs3 : 4194304 < size := hs1.resolve_left hs2
        have hse := decide_eq_true hs3
        go_enter Tryz.func35, Tryz.ntmps35
        go_wp2_with fail
        exact HF.out
    · have hs2 : ¬ size < 0 := fun e => hs1 (.inl e)
      have hs3 : ¬ 4194304 < size := fun e => hs1 (.inr e)
      have hsd := decide_eq_false hs2
      have hse := decide_eq_false hs3
      rw [if_neg hs1] at e0
      by_cases hk2 : p.kind = 2
      · rw [if_neg (fun e => e hk2)] at e0
        obtain ⟨N, hN⟩ : ∃ N : Nat, size = (N : Int) := ⟨size.toNat, by omega⟩
        have HR : Hid (Calls Tryz.prog 52 #[.pointer (some ⟨fb, 0, none⟩), .pointer (some ⟨(L n).ib, 0, none⟩), .int .i64 size] w fun e w2 => (∃ c, c ≠ 0 ∧ e = .returned (.int .i64 c) ∧ Hid (P (.returned (.int .i64 c)) w2)) ∨ (e = .returned (.int .i64 0) ∧ Hid (Calls Tryz.prog 53 #[.pointer (some ⟨fb, 0, none⟩), .agg #[.int .i64 6, .int .i64 0, .string ⟨#[]⟩, .int .i64 n, .int .i64 0, .string ⟨#[]⟩, .int .i64 0, .int .i64 size]] w2 fun e w4 => (∃ r, e = .returned r) ∧ Hid (P (.returned (.int .i64 0)) w4)))) := by
          show Calls _ _ _ _ _
          rw [hN]
          refine Calls.mono (resize_any H hqn N (by omega) (hd p hqn) hh hb) ?_
          rintro e w2 (⟨hm, rfl, hV⟩ | ⟨hm, rfl, L', H2, f2, hL⟩)
          · refine .inl ⟨105, by decide, rfl, HFE.out 105 w2 (by decide) ?_ hV⟩
            rw [e0, hN, if_pos hm]
          · refine .inr ⟨rfl, ?_⟩
            refine Calls.mono (did_any H2 hT ⟨6, 0, [], n, 0, [], 0, (N : Int)⟩) ?_
            rintro e w4 ⟨hr4, ot', H4, f4, ho⟩
            refine ⟨hr4, ?_⟩
            show P _ _
            rw [hP]
            refine .inr ⟨by rw [e0, hN, if_neg hm], rfl, p, hqn, ?_⟩
            rw [hN]
            refine MutO.ofL hL (upd_sub hqn rfl) f2 (fun k hk => ?_) H4 f4 ho
            rcases hk with rfl | rfl | hk
            · exact .inl (.inl rfl)
            · exact .inl (.inr (.inr (.inr ⟨n, p, hqn, .inl rfl⟩)))
            · exact .inl (.inr (.inr (.inr ⟨n, p, hqn, .inr (.inr hk)⟩)))
        rw [hk2] at x0
        clear H hP HFE e0 hC hk2 hN hs1
        generalize (L n).ib = ib at *
        go_enter Tryz.func35, Tryz.ntmps35
        go_upto_region 8 with fail
        go_wp2_with fail
        go_at_call 52
        with_reducible refine HR.out.mono ?_
        rintro e w2 (⟨c, hc, rfl, HF⟩ | ⟨rfl, HD⟩)
        · have hcb : (c == 0) = false := by rw [beq_eq_false_iff_ne]; exact hc
          go_wp2_with fail
          exact HF.out
        · go_wp2_with (first | (go_at_call 53; with_reducible refine HD.out.mono ?_; rintro e w4 ⟨⟨r4, rfl⟩, HF⟩))
          exact HF.out
      · have HF := tHid (HFE.out 106 w (by decide) (by rw [e0, if_pos hk2]) (Fr.refl _ _))
        have hkb : (p.kind == 2) = false := by rw [beq_eq_false_iff_ne]; exact hk2
        clear H hP HFE e0 hC
        generalize (L n).ib = ib at *
        generalize p.kind = kd at *
        go_enter Tryz.func35, Tryz.ntmps35
        go_wp2_with fail
        exact HF.out
end Go.Proofs.YtcogkhcfpgelhabGreat
