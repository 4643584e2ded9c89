import Derived.Test.YtcogkhcfpgelhaaGreatVax
namespace Go.Proofs.YtcogkhcfpgelhaaGreat
open Go.RowKit
set_option linter.unusedVariables false
set_option maxRecDepth 100000
/-! ### The document's first example -/
abbrev mt0 : Mt := ⟨0, 0, 0, 0, 0⟩
abbrev mt1 : Mt := ⟨493, 0, 0, 0, 0⟩
def lQ1 : Int → Option Pn := addQ rootQ 1 [97] 2 (newP 1 mt1 [])
def lQ2 : Int → Option Pn := addQ lQ1 2 [102] 3 (newP 2 mt0 [])
abbrev lB : List By := [120#8, 121#8]
def lP3 : Pn := ⟨2, mt0, [0#8, 0#8, 120#8, 121#8], [], fun _ => none, 0, 1, 0⟩
def lQ3 (j : Int) : Option Pn := if j = 3 then some lP3 else lQ2 j
def lQ4 : Int → Option Pn := entQ lQ3 1 [104] 3
def lP4 : Pn := ⟨2, mt0, [0#8, 0#8, 120#8, 121#8], [], fun _ => none, 0, 2, 0⟩
def lQ5 : Int → Option Pn := leaQ lQ4 2 [102] 3 lP4
theorem l1a : addE ⟨3, 10, 0, 2⟩ rootQ 1 1 [97] 1 mt1 [] = 0 := by decide
theorem l1b : rootQ 2 = none := rfl
theorem l1c : ∃ p, rootQ 1 = some p ∧ p.ents [97] = none ∧ p.ne = 0 := ⟨_, rfl, rfl, rfl⟩
theorem l2a : addE ⟨3, 10, 0, 3⟩ lQ1 2 2 [102] 2 mt0 [] = 0 := by decide
theorem l2b : lQ1 3 = none := rfl
theorem l2c : ∃ p, lQ1 2 = some p ∧ p.ents [102] = none ∧ p.ne = 0 := ⟨_, rfl, rfl, rfl⟩
theorem l3a : addE ⟨3, 10, 0, 4⟩ lQ2 3 2 [103] 2 mt0 [] = 105 := by decide
theorem l3b : lQ2 4 = none := rfl
theorem l3c : ∃ p, lQ2 2 = some p ∧ p.ents [103] = none ∧ p.ne = 1 := ⟨_, rfl, rfl, rfl⟩
theorem l4a : wrE ⟨3, 10, 0, 4⟩ lQ2 3 2 lB = 0 := by decide
theorem l4b : ∃ p, lQ2 3 = some p ∧ p.data = [] ∧ wrH ⟨3, 10, 0, 4⟩ p 2 lB = ⟨3, 10, 4, 4⟩ ∧ { p with data := wrD p.data 2 lB } = lP3 := ⟨_, rfl, rfl, rfl, rfl⟩
theorem l5a : lnkE lQ3 1 [104] 3 = 0 := by decide
theorem l5c : ∃ p, lQ3 1 = some p ∧ p.ents [104] = none ∧ p.ne = 1 := ⟨_, rfl, rfl, rfl⟩
theorem l5d : lQ3 3 = some lP3 := rfl
theorem l6a : rdE lQ4 3 0 9 = 0 := by decide
theorem l6b : lQ4 3 = some lP4 := rfl
theorem l8a : remE lQ4 2 [102] false = 0 := by decide
theorem l8b : fndQ lQ4 2 [102] = (3, 0) := by decide
theorem l8c : ∃ p, lQ4 2 = some p ∧ p.ents [102] = some 3 := ⟨_, rfl, rfl⟩
theorem l9a : remE lQ5 1 [97] true = 0 := by decide
theorem l9b : fndQ lQ5 1 [97] = (2, 0) := by decide
theorem l9c : ∃ p, lQ5 1 = some p ∧ p.ents [97] = some 2 := ⟨_, rfl, rfl⟩
theorem l9d : ∃ p, lQ5 2 = some p ∧ p.links = 1 ∧ p.data = [] := ⟨_, rfl, rfl, rfl⟩
end Go.Proofs.YtcogkhcfpgelhaaGreat

namespace Go.Proofs.YtcogkhcfpgelhaaGreat
open Go.RowKit
set_option linter.unusedVariables false
set_option maxRecDepth 100000
variable {w w' D : World} {X : Nat → Prop} {fb mb : Nat} {h h' : Hx} {q q' : Int → Option Pn} {cnt cnt' : Nat} {T T' : List Ac}
theorem none_zero {d : Int} {s : Tx} (hp : ∃ p, q d = some p ∧ p.ents s = none ∧ p.ne ≤ 1000000) : (∀ p n, q d = some p → p.ents s = some n → n ≠ 0) ∧ ∀ p, q d = some p → p.ne ≤ 1000000000000000 := by
  obtain ⟨p0, h1, h2, h3⟩ := hp
  constructor
  · intro p n k1 k2
    rw [h1] at k1
    injection k1 with k1
    subst k1
    rw [h2] at k2; cases k2
  · intro p k1
    rw [h1] at k1
    injection k1 with k1
    subst k1
    omega
theorem mkdir_ok (H : FsD D X fb mb h q cnt T w) (hfr : q h.next = none) (hnx : 0 ≤ h.next ∧ h.next ≤ 1099511627776) (hT : T.length ≤ 1000000) (hcn : cnt ≤ 1000000) (d : Int) (hd64 : I64 d) (s : Tx) (hs : s.length ≤ 255) (hp : ∃ p, q d = some p ∧ p.ents s = none ∧ p.ne ≤ 1000000) (mt : Mt) (he : addE h q cnt d s 1 mt [] = 0) :
    Calls Tryz.prog 52 #[.pointer (some ⟨fb, 0, none⟩), .int .i64 d, .string (mk s), mtV mt] w fun e w' => e = .returned (.tuple #[.int .i64 h.next, .int .i64 0]) ∧ FsD D X fb mb { h with next := h.next + 1 } (addQ q d s h.next (newP 1 mt [])) (cnt + 1) (T ++ [⟨1, d, s, h.next, 0, [], 0, 0⟩]) w' ∧ FrD D X w w' := by
  obtain ⟨ot, L, h1, h2, h3, h4⟩ := H
  refine Calls.mono (mkdir_any h1 hfr hnx (by omega) hcn d hd64 s (by omega) (none_zero hp).1 (none_zero hp).2 mt) ?_
  rintro e w' (⟨hne, _⟩ | ⟨_, rfl, hM⟩)
  · exact absurd he hne
  · exact ⟨rfl, mut_D h1 h2 h3 h4 hM⟩
theorem create_ok (H : FsD D X fb mb h q cnt T w) (hfr : q h.next = none) (hnx : 0 ≤ h.next ∧ h.next ≤ 1099511627776) (hT : T.length ≤ 1000000) (hcn : cnt ≤ 1000000) (d : Int) (hd64 : I64 d) (s : Tx) (hs : s.length ≤ 255) (hp : ∃ p, q d = some p ∧ p.ents s = none ∧ p.ne ≤ 1000000) (mt : Mt) (he : addE h q cnt d s 2 mt [] = 0) :
    Calls Tryz.prog 57 #[.pointer (some ⟨fb, 0, none⟩), .int .i64 d, .string (mk s), mtV mt] w fun e w' => e = .returned (.tuple #[.int .i64 h.next, .int .i64 0]) ∧ FsD D X fb mb { h with next := h.next + 1 } (addQ q d s h.next (newP 2 mt [])) (cnt + 1) (T ++ [⟨2, d, s, h.next, 0, [], 0, 0⟩]) w' ∧ FrD D X w w' := by
  obtain ⟨ot, L, h1, h2, h3, h4⟩ := H
  refine Calls.mono (create_any h1 hfr hnx (by omega) hcn d hd64 s (by omega) (none_zero hp).1 (none_zero hp).2 mt) ?_
  rintro e w' (⟨hne, _⟩ | ⟨_, rfl, hM⟩)
  · exact absurd he hne
  · exact ⟨rfl, mut_D h1 h2 h3 h4 hM⟩
theorem create_no (H : FsD D X fb mb h q cnt T w) (hfr : q h.next = none) (hnx : 0 ≤ h.next ∧ h.next ≤ 1099511627776) (hT : T.length ≤ 1000000) (hcn : cnt ≤ 1000000) (d : Int) (hd64 : I64 d) (s : Tx) (hs : s.length ≤ 255) (hp : ∃ p, q d = some p ∧ p.ents s = none ∧ p.ne ≤ 1000000) (mt : Mt) {er : Int} (he : addE h q cnt d s 2 mt [] = er) (he0 : er ≠ 0) :
    Calls Tryz.prog 57 #[.pointer (some ⟨fb, 0, none⟩), .int .i64 d, .string (mk s), mtV mt] w fun e w' => e = .returned (.tuple #[.int .i64 0, .int .i64 er]) ∧ FsD D X fb mb h q cnt T w' ∧ Nw w w' := by
  have H0 := H
  obtain ⟨ot, L, h1, h2, h3, h4⟩ := H
  refine Calls.mono (create_any h1 hfr hnx (by omega) hcn d hd64 s (by omega) (none_zero hp).1 (none_zero hp).2 mt) ?_
  rintro e w' (⟨_, rfl, hN⟩ | ⟨hz, _⟩)
  · rw [he]
    exact ⟨rfl, H0.nw hN, hN⟩
  · exact absurd (he.symm.trans hz) he0
theorem write_ok (H : FsD D X fb mb h q cnt T w) (hT : T.length ≤ 1000000) (n : Int) (hn64 : I64 n) (pl : Int) (hp64 : I64 pl) (ba : Option Addr) (cb : Nat) (b : List By) (hsl : Sl (fun k => D.heap.size ≤ k ∧ ¬ X k ∨ w.heap.size ≤ k) (.slice ba b.length cb) b w) {p : Pn} (hq : q n = some p) (hd : p.data.length ≤ 4194304) (hh : 0 ≤ h.held ∧ h.held ≤ 1000000000000) (hb : 0 ≤ h.bytes ∧ h.bytes ≤ 1000000000000) (he : wrE h q n pl b = 0) :
    Calls Tryz.prog 58 #[.pointer (some ⟨fb, 0, none⟩), .int .i64 n, .int .i64 pl, .slice ba b.length cb] w fun e w' => e = .returned (.int .i64 0) ∧ FsD D X fb mb (wrH h p pl.toNat b) (fun j => if j = n then some { p with data := wrD p.data pl.toNat b } else q j) cnt (T ++ [⟨5, 0, [], n, 0, [], pl, b.length⟩]) w' ∧ FrD D X w w' := by
  obtain ⟨ot, L, h1, h2, h3, h4⟩ := H
  refine Calls.mono (write_any h1 (by omega) n hn64 pl hp64 ba cb b (hsl.mono (fun k hk => hk.imp (h2 k) id)) (fun p' hp' => by rw [hq] at hp'; injection hp' with e; rw [← e]; exact hd) hh hb) ?_
  rintro e w' (⟨hne, _⟩ | ⟨_, rfl, p', hp', hM⟩)
  · exact absurd he hne
  · rw [hq] at hp'
    injection hp' with hp'
    subst hp'
    exact ⟨rfl, mut_D h1 h2 h3 h4 hM⟩
theorem link_ok (H : FsD D X fb mb h q cnt T w) (hT : T.length ≤ 1000000) (d : Int) (hd64 : I64 d) (s : Tx) (hs : s.length ≤ 255) (n : Int) (hn64 : I64 n) (hp : ∃ p, q d = some p ∧ p.ents s = none ∧ p.ne ≤ 1000000) {p : Pn} (hq : q n = some p) (hl : 0 ≤ p.links ∧ p.links ≤ 1000000) (he : lnkE q d s n = 0) :
    Calls Tryz.prog 59 #[.pointer (some ⟨fb, 0, none⟩), .int .i64 d, .string (mk s), .int .i64 n] w fun e w' => e = .returned (.int .i64 0) ∧ FsD D X fb mb h (entQ q d s n) cnt (T ++ [⟨4, d, s, n, 0, [], 0, 0⟩]) w' ∧ FrD D X w w' := by
  obtain ⟨ot, L, h1, h2, h3, h4⟩ := H
  refine Calls.mono (link_any h1 (by omega) d hd64 s (by omega) n hn64 (none_zero hp).1 (none_zero hp).2 (fun p' hp' => by rw [hq] at hp'; injection hp' with e; rw [← e]; omega)) ?_
  rintro e w' (⟨hne, _⟩ | ⟨_, rfl, hM⟩)
  · exact absurd he hne
  · exact ⟨rfl, mut_D h1 h2 h3 h4 hM⟩
theorem ent_ok {d n : Int} {s : Tx} {pn : Pn} (hp : ∃ p, q d = some p ∧ p.ents s = some n) (h0 : n ≠ 0 ∧ I64 n ∧ n ≠ d) (hn : q n = some pn) (hl : 1 ≤ pn.links ∧ pn.links ≤ 1000000 ∧ pn.data.length ≤ 4194304) : EntOk q d s := by
  obtain ⟨p0, h1, h2⟩ := hp
  intro p m k1 k2
  rw [h1] at k1
  injection k1 with k1
  subst k1
  rw [h2] at k2
  injection k2 with k2
  subst k2
  exact ⟨h0.1, h0.2.1, h0.2.2, pn, hn, hl.1, by omega, by omega⟩
theorem unlink_ok (H : FsD D X fb mb h q cnt T w) (hT : T.length ≤ 1000000) (d : Int) (hd64 : I64 d) (s : Tx) (hs : s.length ≤ 255) {n : Int} {pn : Pn} (hp : ∃ p, q d = some p ∧ p.ents s = some n) (h0 : n ≠ 0 ∧ I64 n ∧ n ≠ d) (hn : q n = some pn) (hl : 1 ≤ pn.links ∧ pn.links ≤ 1000000 ∧ pn.data.length ≤ 4194304) (hh : 0 ≤ h.held ∧ h.held ≤ 1000000000000) (hf : fndQ q d s = (n, 0)) (he : remE q d s false = 0) :
    Calls Tryz.prog 60 #[.pointer (some ⟨fb, 0, none⟩), .int .i64 d, .string (mk s)] w fun e w' => e = .returned (.int .i64 0) ∧ FsD D X fb mb (leaH h pn) (leaQ q d s n pn) (leaN cnt pn) (T ++ [⟨7, d, s, n, 0, [], 0, 0⟩]) w' ∧ FrD D X w w' := by
  obtain ⟨ot, L, h1, h2, h3, h4⟩ := H
  refine Calls.mono (unlink_any h1 (by omega) d hd64 s (by omega) (ent_ok hp h0 hn hl) ⟨hh.1, by omega⟩) ?_
  rintro e w' (⟨hne, _⟩ | ⟨_, rfl, n', pn', hf', hn', hM⟩)
  · exact absurd he hne
  · rw [hf] at hf'
    injection hf' with hf'
    subst hf'
    rw [hn] at hn'
    injection hn' with hn'
    subst hn'
    exact ⟨rfl, mut_D h1 h2 h3 h4 hM⟩
theorem rmdir_ok (H : FsD D X fb mb h q cnt T w) (hT : T.length ≤ 1000000) (d : Int) (hd64 : I64 d) (s : Tx) (hs : s.length ≤ 255) {n : Int} {pn : Pn} (hp : ∃ p, q d = some p ∧ p.ents s = some n) (h0 : n ≠ 0 ∧ I64 n ∧ n ≠ d) (hn : q n = some pn) (hl : 1 ≤ pn.links ∧ pn.links ≤ 1000000 ∧ pn.data.length ≤ 4194304) (hh : 0 ≤ h.held ∧ h.held ≤ 1000000000000) (hf : fndQ q d s = (n, 0)) (he : remE q d s true = 0) :
    Calls Tryz.prog 61 #[.pointer (some ⟨fb, 0, none⟩), .int .i64 d, .string (mk s)] w fun e w' => e = .returned (.int .i64 0) ∧ FsD D X fb mb (leaH h pn) (leaQ q d s n pn) (leaN cnt pn) (T ++ [⟨8, d, s, n, 0, [], 0, 0⟩]) w' ∧ FrD D X w w' := by
  obtain ⟨ot, L, h1, h2, h3, h4⟩ := H
  refine Calls.mono (rmdir_any h1 (by omega) d hd64 s (by omega) (ent_ok hp h0 hn hl) ⟨hh.1, by omega⟩) ?_
  rintro e w' (⟨hne, _⟩ | ⟨_, rfl, n', pn', hf', hn', hM⟩)
  · exact absurd he hne
  · rw [hf] at hf'
    injection hf' with hf'
    subst hf'
    rw [hn] at hn'
    injection hn' with hn'
    subst hn'
    exact ⟨rfl, mut_D h1 h2 h3 h4 hM⟩
theorem read_ok (H : FsD D X fb mb h q cnt T w) (n : Int) (hn64 : I64 n) (pl c : Int) (hp64 : I64 pl) (hc64 : I64 c) {p : Pn} (hq : q n = some p) (hd : p.data.length ≤ 4194304) (he : rdE q n pl c = 0) {l : List By} (hl : rdD p.data pl.toNat c.toNat = l) :
    Calls Tryz.prog 39 #[.pointer (some ⟨fb, 0, none⟩), .int .i64 n, .int .i64 pl, .int .i64 c] w fun e w' => ∃ a' c', e = .returned (.tuple #[.slice a' l.length c', .int .i64 0]) ∧ Sl (fun _ => False) (.slice a' l.length c') l w' ∧ FsD D X fb mb h q cnt T w' ∧ Nw w w' := by
  have H0 := H
  obtain ⟨ot, L, h1, h2, h3, h4⟩ := H
  refine Calls.mono (readF_any h1 n hn64 pl c hp64 hc64 (fun p' hp' => by rw [hq] at hp'; injection hp' with e; rw [← e]; exact hd)) ?_
  rintro e w' (⟨hne, _⟩ | ⟨_, p', a', c', od, hp', rfl, hO, hN, _⟩)
  · exact absurd he hne
  · rw [hq] at hp'
    injection hp' with hp'
    subst hp'
    rw [hl] at hO ⊢
    exact ⟨a', c', rfl, hO.sl.mono (fun _ h => h.elim), H0.nw hN, hN⟩
theorem stat_ok (H : FsD D X fb mb h q cnt T w) (n : Int) (hn64 : I64 n) {p : Pn} (hq : q n = some p) (hs : p.data.length ≤ 4194304 ∧ p.ne ≤ 1000000 ∧ p.tgt.length ≤ 4096) :
    Calls Tryz.prog 37 #[.pointer (some ⟨fb, 0, none⟩), .int .i64 n] w fun e w' => e = .returned (.tuple #[.agg (stC n p), .int .i64 0]) ∧ FsD D X fb mb h q cnt T w' ∧ Nw w w' := by
  have H0 := H
  obtain ⟨ot, L, h1, h2, h3, h4⟩ := H
  refine Calls.mono (stat_any h1 n hn64 (fun p' hp' => by rw [hq] at hp'; injection hp' with e; rw [← e]; omega)) ?_
  rintro e w' ⟨rfl, hN⟩
  refine ⟨by unfold stV; rw [hq], H0.nw hN, hN⟩
theorem trace_ok (H : FsD D X fb mb h q cnt T w) (hT : T.length ≤ 1000000) :
    Calls Tryz.prog 30 #[.pointer (some ⟨fb, 0, none⟩)] w fun e w' => ∃ a' c', e = .returned (.slice a' T.length c') ∧ FsD D X fb mb h q cnt T w' ∧ Nw w w' := by
  have H0 := H
  obtain ⟨ot, L, h1, h2, h3, h4⟩ := H
  refine Calls.mono (trace_any h1 (by omega)) ?_
  rintro e w' ⟨a', c', og', rfl, _, hN, _⟩
  exact ⟨a', c', rfl, H0.nw hN, hN⟩
end Go.Proofs.YtcogkhcfpgelhaaGreat
