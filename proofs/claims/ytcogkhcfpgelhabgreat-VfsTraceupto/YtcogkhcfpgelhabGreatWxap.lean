import Derived.Test.YtcogkhcfpgelhabGreatVgC
import Derived.Test.YtcogkhcfpgelhabGreatLzB
import Derived.Laws.IdiomStrings
import Derived.Laws.Concat
import Derived.Lib.SlBytesConst
namespace Go.Proofs.YtcogkhcfpgelhabGreat
open Go.RowKit
set_option linter.unusedVariables false
set_option maxRecDepth 100000
/-! ### The document's first example -/
abbrev mt0 : Mt := ⟨0, 0, 0, 0, 0⟩
abbrev mt1 : Mt := ⟨493, 0, 0, 0, 0⟩
def lQ1 : Int → Option Pn := addQ rootQ 1 [97] 2 (newP 1 mt1 [])
def lQ2 : Int → Option Pn := addQ lQ1 2 [102] 3 (newP 2 mt0 [])
abbrev lB : List By := [120#8, 121#8]
def lP3 : Pn := ⟨2, mt0, [0#8, 0#8, 120#8, 121#8], [], fun _ => none, 0, 1, 0⟩
def lQ3 (j : Int) : Option Pn := if j = 3 then some lP3 else lQ2 j
def lQ4 : Int → Option Pn := entQ lQ3 1 [104] 3
def lP4 : Pn := ⟨2, mt0, [0#8, 0#8, 120#8, 121#8], [], fun _ => none, 0, 2, 0⟩
def lQ5 : Int → Option Pn := leaQ lQ4 2 [102] 3 lP4
theorem l1a : addE ⟨3, 10, 0, 2⟩ rootQ 1 1 [97] 1 mt1 [] = 0 := by decide
theorem l1b : rootQ 2 = none := rfl
theorem l1c : ∃ p, rootQ 1 = some p ∧ p.ents [97] = none ∧ p.ne = 0 := ⟨_, rfl, rfl, rfl⟩
theorem l2a : addE ⟨3, 10, 0, 3⟩ lQ1 2 2 [102] 2 mt0 [] = 0 := by decide
theorem l2b : lQ1 3 = none := rfl
theorem l2c : ∃ p, lQ1 2 = some p ∧ p.ents [102] = none ∧ p.ne = 0 := ⟨_, rfl, rfl, rfl⟩
theorem l3a : addE ⟨3, 10, 0, 4⟩ lQ2 3 2 [103] 2 mt0 [] = 105 := by decide
theorem l3b : lQ2 4 = none := rfl
theorem l3c : ∃ p, lQ2 2 = some p ∧ p.ents [103] = none ∧ p.ne = 1 := ⟨_, rfl, rfl, rfl⟩
theorem l4a : wrE ⟨3, 10, 0, 4⟩ lQ2 3 2 lB = 0 := by decide
theorem l4b : ∃ p, lQ2 3 = some p ∧ p.data = [] ∧ wrH ⟨3, 10, 0, 4⟩ p 2 lB = ⟨3, 10, 4, 4⟩ ∧ { p with data := wrD p.data 2 lB } = lP3 := ⟨_, rfl, rfl, rfl, rfl⟩
theorem l5a : lnkE lQ3 1 [104] 3 = 0 := by decide
theorem l5c : ∃ p, lQ3 1 = some p ∧ p.ents [104] = none ∧ p.ne = 1 := ⟨_, rfl, rfl, rfl⟩
theorem l5d : lQ3 3 = some lP3 := rfl
theorem l6a : rdE lQ4 3 0 9 = 0 := by decide
theorem l6b : lQ4 3 = some lP4 := rfl
theorem l8a : remE lQ4 2 [102] false = 0 := by decide
theorem l8b : fndQ lQ4 2 [102] = (3, 0) := by decide
theorem l8c : ∃ p, lQ4 2 = some p ∧ p.ents [102] = some 3 := ⟨_, rfl, rfl⟩
theorem l9a : remE lQ5 1 [97] true = 0 := by decide
theorem l9b : fndQ lQ5 1 [97] = (2, 0) := by decide
theorem l9c : ∃ p, lQ5 1 = some p ∧ p.ents [97] = some 2 := ⟨_, rfl, rfl⟩
theorem l9d : ∃ p, lQ5 2 = some p ∧ p.links = 1 ∧ p.data = [] := ⟨_, rfl, rfl, rfl⟩
end Go.Proofs.YtcogkhcfpgelhabGreat

namespace Go.Proofs.YtcogkhcfpgelhabGreat
open Go.RowKit
set_option linter.unusedVariables false
set_option maxRecDepth 100000
variable {w w' D : World} {X : Nat → Prop} {fb mb : Nat} {h h' : Hx} {q q' : Int → Option Pn} {cnt cnt' : Nat} {T T' : List Ac}
theorem none_zero {d : Int} {s : Tx} (hp : ∃ p, q d = some p ∧ p.ents s = none ∧ p.ne ≤ 1000000) : (∀ p n, q d = some p → p.ents s = some n → n ≠ 0) ∧ ∀ p, q d = some p → p.ne ≤ 1000000000000000 := by
  obtain ⟨p0, h1, h2, h3⟩ := hp
  constructor
  · intro p n k1 k2
    rw [h1] at k1
    injection k1 with k1
    subst k1
    rw [h2] at k2; cases k2
  · intro p k1
    rw [h1] at k1
    injection k1 with k1
    subst k1
    omega
theorem mkdir_ok (H : FsD D X fb mb h q cnt T w) (hfr : q h.next = none) (hnx : 0 ≤ h.next ∧ h.next ≤ 1099511627776) (hT : T.length ≤ 1000000) (hcn : cnt ≤ 1000000) (d : Int) (hd64 : I64 d) (s : Tx) (hs : s.length ≤ 255) (hp : ∃ p, q d = some p ∧ p.ents s = none ∧ p.ne ≤ 1000000) (mt : Mt) (he : addE h q cnt d s 1 mt [] = 0) :
    Calls Tryz.prog 25 #[.pointer (some ⟨fb, 0, none⟩), .int .i64 d, .string (mk s), mtV mt] w fun e w' => e = .returned (.tuple #[.int .i64 h.next, .int .i64 0]) ∧ FsD D X fb mb { h with next := h.next + 1 } (addQ q d s h.next (newP 1 mt [])) (cnt + 1) (T ++ [⟨1, d, s, h.next, 0, [], 0, 0⟩]) w' ∧ FrD D X w w' := by
  obtain ⟨ot, L, h1, h2, h3, h4⟩ := H
  refine Calls.mono (mkdir_any h1 hfr hnx (by omega) hcn d hd64 s (by omega) (none_zero hp).1 (none_zero hp).2 mt) ?_
  rintro e w' (⟨hne, _⟩ | ⟨_, rfl, hM⟩)
  · exact absurd he hne
  · exact ⟨rfl, mut_D h1 h2 h3 h4 hM⟩
theorem create_ok (H : FsD D X fb mb h q cnt T w) (hfr : q h.next = none) (hnx : 0 ≤ h.next ∧ h.next ≤ 1099511627776) (hT : T.length ≤ 1000000) (hcn : cnt ≤ 1000000) (d : Int) (hd64 : I64 d) (s : Tx) (hs : s.length ≤ 255) (hp : ∃ p, q d = some p ∧ p.ents s = none ∧ p.ne ≤ 1000000) (mt : Mt) (he : addE h q cnt d s 2 mt [] = 0) :
    Calls Tryz.prog 26 #[.pointer (some ⟨fb, 0, none⟩), .int .i64 d, .string (mk s), mtV mt] w fun e w' => e = .returned (.tuple #[.int .i64 h.next, .int .i64 0]) ∧ FsD D X fb mb { h with next := h.next + 1 } (addQ q d s h.next (newP 2 mt [])) (cnt + 1) (T ++ [⟨2, d, s, h.next, 0, [], 0, 0⟩]) w' ∧ FrD D X w w' := by
  obtain ⟨ot, L, h1, h2, h3, h4⟩ := H
  refine Calls.mono (create_any h1 hfr hnx (by omega) hcn d hd64 s (by omega) (none_zero hp).1 (none_zero hp).2 mt) ?_
  rintro e w' (⟨hne, _⟩ | ⟨_, rfl, hM⟩)
  · exact absurd he hne
  · exact ⟨rfl, mut_D h1 h2 h3 h4 hM⟩
theorem create_no (H : FsD D X fb mb h q cnt T w) (hfr : q h.next = none) (hnx : 0 ≤ h.next ∧ h.next ≤ 1099511627776) (hT : T.length ≤ 1000000) (hcn : cnt ≤ 1000000) (d : Int) (hd64 : I64 d) (s : Tx) (hs : s.length ≤ 255) (hp : ∃ p, q d = some p ∧ p.ents s = none ∧ p.ne ≤ 1000000) (mt : Mt) {er : Int} (he : addE h q cnt d s 2 mt [] = er) (he0 : er ≠ 0) :
    Calls Tryz.prog 26 #[.pointer (some ⟨fb, 0, none⟩), .int .i64 d, .string (mk s), mtV mt] w fun e w' => e = .returned (.tuple #[.int .i64 0, .int .i64 er]) ∧ FsD D X fb mb h q cnt T w' ∧ Nw w w' := by
  have H0 := H
  obtain ⟨ot, L, h1, h2, h3, h4⟩ := H
  refine Calls.mono (create_any h1 hfr hnx (by omega) hcn d hd64 s (by omega) (none_zero hp).1 (none_zero hp).2 mt) ?_
  rintro e w' (⟨_, rfl, hN⟩ | ⟨hz, _⟩)
  · rw [he]
    exact ⟨rfl, H0.nw hN, hN⟩
  · exact absurd (he.symm.trans hz) he0
theorem write_ok (H : FsD D X fb mb h q cnt T w) (hT : T.length ≤ 1000000) (n : Int) (hn64 : I64 n) (pl : Int) (hp64 : I64 pl) (ba : Option Addr) (cb : Nat) (b : List By) (hsl : Sl (fun k => D.heap.size ≤ k ∧ ¬ X k ∨ w.heap.size ≤ k) (.slice ba b.length cb) b w) {p : Pn} (hq : q n = some p) (hd : p.data.length ≤ 4194304) (hh : 0 ≤ h.held ∧ h.held ≤ 1000000000000) (hb : 0 ≤ h.bytes ∧ h.bytes ≤ 1000000000000) (he : wrE h q n pl b = 0) :
    Calls Tryz.prog 27 #[.pointer (some ⟨fb, 0, none⟩), .int .i64 n, .int .i64 pl, .slice ba b.length cb] w fun e w' => e = .returned (.int .i64 0) ∧ FsD D X fb mb (wrH h p pl.toNat b) (fun j => if j = n then some { p with data := wrD p.data pl.toNat b } else q j) cnt (T ++ [⟨5, 0, [], n, 0, [], pl, b.length⟩]) w' ∧ FrD D X w w' := by
  obtain ⟨ot, L, h1, h2, h3, h4⟩ := H
  refine Calls.mono (write_any h1 (by omega) n hn64 pl hp64 ba cb b (hsl.mono (fun k hk => hk.imp (h2 k) id)) (fun p' hp' => by rw [hq] at hp'; injection hp' with e; rw [← e]; exact hd) hh hb) ?_
  rintro e w' (⟨hne, _⟩ | ⟨_, rfl, p', hp', hM⟩)
  · exact absurd he hne
  · rw [hq] at hp'
    injection hp' with hp'
    subst hp'
    exact ⟨rfl, mut_D h1 h2 h3 h4 hM⟩
theorem link_ok (H : FsD D X fb mb h q cnt T w) (hT : T.length ≤ 1000000) (d : Int) (hd64 : I64 d) (s : Tx) (hs : s.length ≤ 255) (n : Int) (hn64 : I64 n) (hp : ∃ p, q d = some p ∧ p.ents s = none ∧ p.ne ≤ 1000000) {p : Pn} (hq : q n = some p) (hl : 0 ≤ p.links ∧ p.links ≤ 1000000) (he : lnkE q d s n = 0) :
    Calls Tryz.prog 28 #[.pointer (some ⟨fb, 0, none⟩), .int .i64 d, .string (mk s), .int .i64 n] w fun e w' => e = .returned (.int .i64 0) ∧ FsD D X fb mb h (entQ q d s n) cnt (T ++ [⟨4, d, s, n, 0, [], 0, 0⟩]) w' ∧ FrD D X w w' := by
  obtain ⟨ot, L, h1, h2, h3, h4⟩ := H
  refine Calls.mono (link_any h1 (by omega) d hd64 s (by omega) n hn64 (none_zero hp).1 (none_zero hp).2 (fun p' hp' => by rw [hq] at hp'; injection hp' with e; rw [← e]; omega)) ?_
  rintro e w' (⟨hne, _⟩ | ⟨_, rfl, hM⟩)
  · exact absurd he hne
  · exact ⟨rfl, mut_D h1 h2 h3 h4 hM⟩
theorem ent_ok {d n : Int} {s : Tx} {pn : Pn} (hp : ∃ p, q d = some p ∧ p.ents s = some n) (h0 : n ≠ 0 ∧ I64 n ∧ n ≠ d) (hn : q n = some pn) (hl : 1 ≤ pn.links ∧ pn.links ≤ 1000000 ∧ pn.data.length ≤ 4194304) : EntOk q d s := by
  obtain ⟨p0, h1, h2⟩ := hp
  intro p m k1 k2
  rw [h1] at k1
  injection k1 with k1
  subst k1
  rw [h2] at k2
  injection k2 with k2
  subst k2
  exact ⟨h0.1, h0.2.1, h0.2.2, pn, hn, hl.1, by omega, by omega⟩
theorem unlink_ok (H : FsD D X fb mb h q cnt T w) (hT : T.length ≤ 1000000) (d : Int) (hd64 : I64 d) (s : Tx) (hs : s.length ≤ 255) {n : Int} {pn : Pn} (hp : ∃ p, q d = some p ∧ p.ents s = some n) (h0 : n ≠ 0 ∧ I64 n ∧ n ≠ d) (hn : q n = some pn) (hl : 1 ≤ pn.links ∧ pn.links ≤ 1000000 ∧ pn.data.length ≤ 4194304) (hh : 0 ≤ h.held ∧ h.held ≤ 1000000000000) (hf : fndQ q d s = (n, 0)) (he : remE q d s false = 0) :
    Calls Tryz.prog 30 #[.pointer (some ⟨fb, 0, none⟩), .int .i64 d, .string (mk s)] w fun e w' => e = .returned (.int .i64 0) ∧ FsD D X fb mb (leaH h pn) (leaQ q d s n pn) (leaN cnt pn) (T ++ [⟨7, d, s, n, 0, [], 0, 0⟩]) w' ∧ FrD D X w w' := by
  obtain ⟨ot, L, h1, h2, h3, h4⟩ := H
  refine Calls.mono (unlink_any h1 (by omega) d hd64 s (by omega) (ent_ok hp h0 hn hl) ⟨hh.1, by omega⟩) ?_
  rintro e w' (⟨hne, _⟩ | ⟨_, rfl, n', pn', hf', hn', hM⟩)
  · exact absurd he hne
  · rw [hf] at hf'
    injection hf' with hf'
    subst hf'
    rw [hn] at hn'
    injection hn' with hn'
    subst hn'
    exact ⟨rfl, mut_D h1 h2 h3 h4 hM⟩
theorem rmdir_ok (H : FsD D X fb mb h q cnt T w) (hT : T.length ≤ 1000000) (d : Int) (hd64 : I64 d) (s : Tx) (hs : s.length ≤ 255) {n : Int} {pn : Pn} (hp : ∃ p, q d = some p ∧ p.ents s = some n) (h0 : n ≠ 0 ∧ I64 n ∧ n ≠ d) (hn : q n = some pn) (hl : 1 ≤ pn.links ∧ pn.links ≤ 1000000 ∧ pn.data.length ≤ 4194304) (hh : 0 ≤ h.held ∧ h.held ≤ 1000000000000) (hf : fndQ q d s = (n, 0)) (he : remE q d s true = 0) :
    Calls Tryz.prog 31 #[.pointer (some ⟨fb, 0, none⟩), .int .i64 d, .string (mk s)] w fun e w' => e = .returned (.int .i64 0) ∧ FsD D X fb mb (leaH h pn) (leaQ q d s n pn) (leaN cnt pn) (T ++ [⟨8, d, s, n, 0, [], 0, 0⟩]) w' ∧ FrD D X w w' := by
  obtain ⟨ot, L, h1, h2, h3, h4⟩ := H
  refine Calls.mono (rmdir_any h1 (by omega) d hd64 s (by omega) (ent_ok hp h0 hn hl) ⟨hh.1, by omega⟩) ?_
  rintro e w' (⟨hne, _⟩ | ⟨_, rfl, n', pn', hf', hn', hM⟩)
  · exact absurd he hne
  · rw [hf] at hf'
    injection hf' with hf'
    subst hf'
    rw [hn] at hn'
    injection hn' with hn'
    subst hn'
    exact ⟨rfl, mut_D h1 h2 h3 h4 hM⟩
theorem read_ok (H : FsD D X fb mb h q cnt T w) (n : Int) (hn64 : I64 n) (pl c : Int) (hp64 : I64 pl) (hc64 : I64 c) {p : Pn} (hq : q n = some p) (hd : p.data.length ≤ 4194304) (he : rdE q n pl c = 0) {l : List By} (hl : rdD p.data pl.toNat c.toNat = l) :
    Calls Tryz.prog 29 #[.pointer (some ⟨fb, 0, none⟩), .int .i64 n, .int .i64 pl, .int .i64 c] w fun e w' => ∃ a' c', e = .returned (.tuple #[.slice a' l.length c', .int .i64 0]) ∧ Sl (fun _ => False) (.slice a' l.length c') l w' ∧ FsD D X fb mb h q cnt T w' ∧ Nw w w' := by
  have H0 := H
  obtain ⟨ot, L, h1, h2, h3, h4⟩ := H
  refine Calls.mono (readF_any h1 n hn64 pl c hp64 hc64 (fun p' hp' => by rw [hq] at hp'; injection hp' with e; rw [← e]; exact hd)) ?_
  rintro e w' (⟨hne, _⟩ | ⟨_, p', a', c', od, hp', rfl, hO, hN, _⟩)
  · exact absurd he hne
  · rw [hq] at hp'
    injection hp' with hp'
    subst hp'
    rw [hl] at hO ⊢
    exact ⟨a', c', rfl, hO.sl.mono (fun _ h => h.elim), H0.nw hN, hN⟩
theorem stat_ok (H : FsD D X fb mb h q cnt T w) (n : Int) (hn64 : I64 n) {p : Pn} (hq : q n = some p) (hs : p.data.length ≤ 4194304 ∧ p.ne ≤ 1000000 ∧ p.tgt.length ≤ 4096) :
    Calls Tryz.prog 22 #[.pointer (some ⟨fb, 0, none⟩), .int .i64 n] w fun e w' => e = .returned (.tuple #[.agg (stC n p), .int .i64 0]) ∧ FsD D X fb mb h q cnt T w' ∧ Nw w w' := by
  have H0 := H
  obtain ⟨ot, L, h1, h2, h3, h4⟩ := H
  refine Calls.mono (stat_any h1 n hn64 (fun p' hp' => by rw [hq] at hp'; injection hp' with e; rw [← e]; omega)) ?_
  rintro e w' ⟨rfl, hN⟩
  refine ⟨by unfold stV; rw [hq], H0.nw hN, hN⟩
theorem trace_ok (H : FsD D X fb mb h q cnt T w) (hT : T.length ≤ 1000000) :
    Calls Tryz.prog 16 #[.pointer (some ⟨fb, 0, none⟩)] w fun e w' => ∃ a' c', e = .returned (.slice a' T.length c') ∧ FsD D X fb mb h q cnt T w' ∧ Nw w w' := by
  have H0 := H
  obtain ⟨ot, L, h1, h2, h3, h4⟩ := H
  refine Calls.mono (trace_any h1 (by omega)) ?_
  rintro e w' ⟨a', c', og', rfl, _, hN, _⟩
  exact ⟨a', c', rfl, H0.nw hN, hN⟩
end Go.Proofs.YtcogkhcfpgelhabGreat

namespace Go.Proofs.YtcogkhcfpgelhabGreat
open Go.RowKit
set_option linter.unusedVariables false
/-! ### Bytes as a string -/
def u8 (b : By) : UInt8 := UInt8.ofNat b.toNat
theorem u8_nat (b : By) : (u8 b).toNat = b.toNat := by
  have := b.isLt
  simp [u8]
def str (l : List By) : ByteArray := ⟨(l.map u8).toArray⟩
theorem u8_inj (b c : By) (h : u8 b = u8 c) : b = c := by
  have := congrArg UInt8.toNat h
  rw [u8_nat, u8_nat] at this
  exact BitVec.eq_of_toNat_eq this
theorem map_inj {l m : List By} (h : l.map u8 = m.map u8) : l = m := by
  induction l generalizing m with
  | nil => cases m with
    | nil => rfl
    | cons x r => simp at h
  | cons x r ih => cases m with
    | nil => simp at h
    | cons y s => simp only [List.map_cons, List.cons.injEq] at h; rw [u8_inj x y h.1, ih h.2]
theorem str_inj {l m : List By} : str l = str m ↔ l = m := by
  constructor
  · intro h
    have h1 := congrArg ByteArray.data h
    have h2 : (l.map u8) = (m.map u8) := by simpa [str] using h1
    exact map_inj h2
  · intro h; rw [h]
theorem str_app (l m : List By) : str l ++ str m = str (l ++ m) := by
  apply ByteArray.ext
  simp [str]
theorem str_size (l : List By) : (str l).size = l.length := by
  show (str l).data.size = _
  simp [str]
theorem conv_any {X : Nat → Prop} {v : Value} {l : List By} {w : World} (h : Sl X v l w) : (convert 38 9 v).run Tryz.prog w = .ok (.string (str l)) w := by
  have key : ∀ (g o c : Nat), Rd g o l w → (convert 38 9 (.slice (some ⟨g, o, none⟩) l.length c)).run Tryz.prog w = .ok (.string (str l)) w := by
    intro g o c hr
    have := run_convert_bytes_back (P := Tryz.prog) w 38 9 5 ⟨g, o, none⟩ c (l.map u8) Tryz.underlying38 Tryz.underlying5 Tryz.underlying9 (fun j hj => by
      have hj' : j < l.length := by simpa using hj
      rw [add_addr, hr j hj']
      simp [u8_nat])
    rw [List.length_map] at this
    exact this
  rcases h with ⟨a, rfl, rfl⟩ | ⟨g, _, o, c, rfl, h1, h2, h3⟩
  · cases a with
    | none =>
      rw [run_convert_bytes_string w 38 9 5 none 0 0 Tryz.underlying38 Tryz.underlying5 Tryz.underlying9]
      simp [Conv.bytesToString, str, Sem.run_pure]
      rfl
    | some a =>
      exact run_convert_bytes_back (P := Tryz.prog) w 38 9 5 a 0 [] Tryz.underlying38 Tryz.underlying5 Tryz.underlying9 (fun j hj => by simp at hj)
  · exact key g o c h3
theorem one_two_three (w : World) : Sl (fun _ => False) (.slice (some ⟨w.heap.size, 0, none⟩) 3 3) [1#8, 2#8, 3#8] (w.alloc (.cells #[.int .u8 1, .int .u8 2, .int .u8 3] 5)) := by
  have hb : Bw w.heap.size [1#8, 2#8, 3#8] (w.alloc (.cells #[.int .u8 1, .int .u8 2, .int .u8 3] 5)) := by
    show (w.heap.push _)[w.heap.size]? = _
    simp
  exact .inr ⟨_, fun h => h, Ow.slb ⟨[1#8, 2#8, 3#8], rfl, rfl, by decide, by decide, hb⟩⟩
end Go.Proofs.YtcogkhcfpgelhabGreat

namespace Go.Proofs.YtcogkhcfpgelhabGreat
open Go.RowKit
set_option linter.unusedVariables false
set_option maxRecDepth 100000
variable {w w' D : World} {X : Nat → Prop} {fb mb : Nat}
theorem rcf {w : World} {rb : Nat} {a : Array Value} {T : Nat} {fr : Nat × Nat} (h : w.heap[rb]? = some (.cells a T fr)) (j : Nat) (v : Value) (hv : a[j]? = some v) : w.cell? ⟨rb, j, none⟩ = some v := by
  simp [World.cell?, h, hv]
def lT1 : List Ac := [] ++ [⟨1, 1, [97], 2, 0, [], 0, 0⟩]
def lT2 : List Ac := lT1 ++ [⟨2, 2, [102], 3, 0, [], 0, 0⟩]
def lT3 : List Ac := lT2 ++ [⟨5, 0, [], 3, 0, [], 2, 2⟩]
def lT4 : List Ac := lT3 ++ [⟨4, 1, [104], 3, 0, [], 0, 0⟩]
def lT5 : List Ac := lT4 ++ [⟨7, 2, [102], 3, 0, [], 0, 0⟩]
def lT6 : List Ac := lT5 ++ [⟨8, 1, [97], 2, 0, [], 0, 0⟩]
def lT7 : List Ac := lT6 ++ [⟨2, 1, [110], 4, 0, [], 0, 0⟩]
def lP5 : Pn := ⟨1, mt1, [], [], fun x => if x = [102] then none else if x = [102] then some 3 else none, 0, 1, 1⟩
def lQ6 : Int → Option Pn := leaQ lQ5 1 [97] 2 lP5
def lQ7 : Int → Option Pn := addQ lQ6 1 [110] 4 (newP 2 mt0 [])
abbrev Nox : Nat → Prop := fun _ => False
theorem lv0 (w : World) : Calls Tryz.prog 24 #[.int .i64 3, .int .i64 10] w fun e w' => ∃ fb mb, e = .returned (.tuple #[.pointer (some ⟨fb, 0, none⟩), .int .i64 0]) ∧ Hid (FsD w Nox fb mb ⟨3, 10, 0, 2⟩ rootQ 1 [] w') := by
  refine Calls.mono (new_any 3 10 w) ?_
  rintro e w' (⟨hn, _⟩ | ⟨_, fb, mb, rfl, hF⟩)
  · exact absurd hn (by decide)
  · exact ⟨fb, mb, rfl, FsD.of_new (fun _ h => h) hF⟩
theorem lv1 (H : FsD D X fb mb ⟨3, 10, 0, 2⟩ rootQ 1 [] w) : Calls Tryz.prog 25 #[.pointer (some ⟨fb, 0, none⟩), .int .i64 1, .string ⟨#[97]⟩, .agg #[.int .u32 493, .int .u32 0, .int .u32 0, .int .i64 0, .int .i32 0]] w fun e w' => e = .returned (.tuple #[.int .i64 2, .int .i64 0]) ∧ Hid (FsD D X fb mb ⟨3, 10, 0, 3⟩ lQ1 2 lT1 w') := by
  refine Calls.mono (mkdir_ok H l1b ⟨by show (0 : Int) ≤ 2; omega, by show (2 : Int) ≤ _; omega⟩ (by simp) (by omega) 1 ⟨by omega, by omega⟩ [97] (by simp) (by obtain ⟨p, a, b, c⟩ := l1c; exact ⟨p, a, b, by omega⟩) mt1 l1a) ?_
  rintro e w' ⟨rfl, h2, _⟩
  exact ⟨rfl, h2⟩
theorem lv2 (H : FsD D X fb mb ⟨3, 10, 0, 3⟩ lQ1 2 lT1 w) : Calls Tryz.prog 26 #[.pointer (some ⟨fb, 0, none⟩), .int .i64 2, .string ⟨#[102]⟩, .agg #[.int .u32 0, .int .u32 0, .int .u32 0, .int .i64 0, .int .i32 0]] w fun e w' => e = .returned (.tuple #[.int .i64 3, .int .i64 0]) ∧ Hid (FsD D X fb mb ⟨3, 10, 0, 4⟩ lQ2 3 lT2 w') := by
  refine Calls.mono (create_ok H l2b ⟨by show (0 : Int) ≤ 3; omega, by show (3 : Int) ≤ _; omega⟩ (by simp [lT1]) (by omega) 2 ⟨by omega, by omega⟩ [102] (by simp) (by obtain ⟨p, a, b, c⟩ := l2c; exact ⟨p, a, b, by omega⟩) mt0 l2a) ?_
  rintro e w' ⟨rfl, h2, _⟩
  exact ⟨rfl, h2⟩
theorem lv3 (H : FsD D X fb mb ⟨3, 10, 0, 4⟩ lQ2 3 lT2 w) : Calls Tryz.prog 26 #[.pointer (some ⟨fb, 0, none⟩), .int .i64 2, .string ⟨#[103]⟩, .agg #[.int .u32 0, .int .u32 0, .int .u32 0, .int .i64 0, .int .i32 0]] w fun e w' => e = .returned (.tuple #[.int .i64 0, .int .i64 105]) ∧ Hid (FsD D X fb mb ⟨3, 10, 0, 4⟩ lQ2 3 lT2 w') := by
  refine Calls.mono (create_no H l3b ⟨by show (0 : Int) ≤ 4; omega, by show (4 : Int) ≤ _; omega⟩ (by simp [lT2, lT1]) (by omega) 2 ⟨by omega, by omega⟩ [103] (by simp) (by obtain ⟨p, a, b, c⟩ := l3c; exact ⟨p, a, b, by omega⟩) mt0 l3a (by decide)) ?_
  rintro e w' ⟨rfl, h2, _⟩
  exact ⟨rfl, h2⟩
theorem lv4 (H : FsD D Nox fb mb ⟨3, 10, 0, 4⟩ lQ2 3 lT2 w) : Calls Tryz.prog 27 #[.pointer (some ⟨fb, 0, none⟩), .int .i64 3, .int .i64 2, .slice (some ⟨w.heap.size, 0, none⟩) 2 2] (w.alloc (.cells #[.int .u8 120, .int .u8 121] 5 (2, 3))) fun e w' => e = .returned (.int .i64 0) ∧ Hid (FsD D Nox fb mb ⟨3, 10, 4, 4⟩ lQ3 3 lT3 w') := by
  have hN : Nw w (w.alloc (.cells #[.int .u8 120, .int .u8 121] 5 (2, 3))) := (Fr.refl _ _).alloc _
  have hsz : (w.alloc (.cells #[.int .u8 120, .int .u8 121] 5 (2, 3))).heap.size = w.heap.size + 1 := by simp
  have H2 : FsD D (fun k => k = w.heap.size) fb mb ⟨3, 10, 0, 4⟩ lQ2 3 lT2 (w.alloc (.cells #[.int .u8 120, .int .u8 121] 5 (2, 3))) := H.more hN (fun k hk => .inr ⟨by omega, by omega⟩)
  have hsl : SlB w.heap.size (.slice (some ⟨w.heap.size, 0, none⟩) 2 2) lB (w.alloc (.cells #[.int .u8 120, .int .u8 121] 5 (2, 3))) := ⟨0, 2, rfl, by simp, by omega, fun j hj => by
    have hj2 : j < 2 := hj
    rcases (show j = 0 ∨ j = 1 by omega) with rfl | rfl
    · exact rcf (nh w _) 0 _ rfl
    · exact rcf (nh w _) 1 _ rfl⟩
  obtain ⟨p, p1, p2, p3, p4⟩ := l4b
  refine Calls.mono (write_ok H2 (by simp [lT2, lT1]) 3 ⟨by omega, by omega⟩ 2 ⟨by omega, by omega⟩ (some ⟨w.heap.size, 0, none⟩) 2 lB (.inr ⟨w.heap.size, fun e => ?_, hsl⟩) p1 (by rw [p2]; simp) ⟨by show (0 : Int) ≤ 0; omega, by show (0 : Int) ≤ _; omega⟩ ⟨by show (0 : Int) ≤ 10; omega, by show (10 : Int) ≤ _; omega⟩ l4a) ?_
  · rcases e with ⟨_, e⟩ | e
    · exact e rfl
    · omega
  · rintro e w' ⟨rfl, h2, _⟩
    refine ⟨rfl, ?_⟩
    have e1 : (2 : Int).toNat = 2 := rfl
    rw [e1, p3, p4] at h2
    obtain ⟨ot, L, a1, a2, a3, a4⟩ := h2
    exact ⟨ot, L, a1, fun k hk => ⟨(a2 k hk).1, fun h => h⟩, a3, fun k hk => hk.elim⟩
theorem lv5 (H : FsD D X fb mb ⟨3, 10, 4, 4⟩ lQ3 3 lT3 w) : Calls Tryz.prog 28 #[.pointer (some ⟨fb, 0, none⟩), .int .i64 1, .string ⟨#[104]⟩, .int .i64 3] w fun e w' => e = .returned (.int .i64 0) ∧ Hid (FsD D X fb mb ⟨3, 10, 4, 4⟩ lQ4 3 lT4 w') := by
  refine Calls.mono (link_ok H (by simp [lT3, lT2, lT1]) 1 ⟨by omega, by omega⟩ [104] (by simp) 3 ⟨by omega, by omega⟩ (by obtain ⟨p, a, b, c⟩ := l5c; exact ⟨p, a, b, by omega⟩) l5d ⟨by show (0 : Int) ≤ 1; omega, by show (1 : Int) ≤ _; omega⟩ l5a) ?_
  rintro e w' ⟨rfl, h2, _⟩
  exact ⟨rfl, h2⟩
theorem lv6 (H : FsD D X fb mb ⟨3, 10, 4, 4⟩ lQ4 3 lT4 w) : Calls Tryz.prog 29 #[.pointer (some ⟨fb, 0, none⟩), .int .i64 3, .int .i64 0, .int .i64 9] w fun e w' => ∃ a' c', e = .returned (.tuple #[.slice a' 4 c', .int .i64 0]) ∧ Hid (Sl (fun _ => False) (.slice a' 4 c') [0#8, 0#8, 120#8, 121#8] w') ∧ Hid (FsD D X fb mb ⟨3, 10, 4, 4⟩ lQ4 3 lT4 w') := by
  refine Calls.mono (read_ok (l := [0#8, 0#8, 120#8, 121#8]) H 3 ⟨by omega, by omega⟩ 0 9 ⟨by omega, by omega⟩ ⟨by omega, by omega⟩ l6b (by show 4 ≤ _; omega) l6a rfl) ?_
  rintro e w' ⟨a', c', rfl, h2, h3, _⟩
  exact ⟨a', c', rfl, h2, h3⟩
theorem lv7 (H : FsD D X fb mb ⟨3, 10, 4, 4⟩ lQ4 3 lT4 w) : Calls Tryz.prog 22 #[.pointer (some ⟨fb, 0, none⟩), .int .i64 3] w fun e w' => e = .returned (.tuple #[.agg #[.int .i64 3, .int .i64 2, .int .u32 0, .int .u32 0, .int .u32 0, .int .i64 0, .int .i32 0, .int .i64 2, .int .i64 4], .int .i64 0]) ∧ Hid (FsD D X fb mb ⟨3, 10, 4, 4⟩ lQ4 3 lT4 w' ∧ Nw w w') := by
  refine Calls.mono (stat_ok H 3 ⟨by omega, by omega⟩ l6b ⟨by show 4 ≤ _; omega, by show 0 ≤ _; omega, by show 0 ≤ _; omega⟩) ?_
  rintro e w' ⟨rfl, h2, h3⟩
  exact ⟨rfl, h2, h3⟩
theorem lv8 (H : FsD D X fb mb ⟨3, 10, 4, 4⟩ lQ4 3 lT4 w) : Calls Tryz.prog 30 #[.pointer (some ⟨fb, 0, none⟩), .int .i64 2, .string ⟨#[102]⟩] w fun e w' => e = .returned (.int .i64 0) ∧ Hid (FsD D X fb mb ⟨3, 10, 4, 4⟩ lQ5 3 lT5 w') := by
  refine Calls.mono (unlink_ok H (by simp [lT4, lT3, lT2, lT1]) 2 ⟨by omega, by omega⟩ [102] (by simp) l8c ⟨by omega, ⟨by omega, by omega⟩, by omega⟩ l6b ⟨by show (1 : Int) ≤ 2; omega, by show (2 : Int) ≤ _; omega, by show 4 ≤ _; omega⟩ ⟨by show (0 : Int) ≤ 4; omega, by show (4 : Int) ≤ _; omega⟩ l8b l8a) ?_
  rintro e w' ⟨rfl, h2, _⟩
  exact ⟨rfl, h2⟩
theorem l9e : lQ5 2 = some lP5 := rfl
theorem lv9 (H : FsD D X fb mb ⟨3, 10, 4, 4⟩ lQ5 3 lT5 w) : Calls Tryz.prog 31 #[.pointer (some ⟨fb, 0, none⟩), .int .i64 1, .string ⟨#[97]⟩] w fun e w' => e = .returned (.int .i64 0) ∧ Hid (FsD D X fb mb ⟨3, 10, 4, 4⟩ lQ6 2 lT6 w') := by
  refine Calls.mono (rmdir_ok H (by simp [lT5, lT4, lT3, lT2, lT1]) 1 ⟨by omega, by omega⟩ [97] (by simp) l9c ⟨by omega, ⟨by omega, by omega⟩, by omega⟩ l9e ⟨by show (1 : Int) ≤ 1; omega, by show (1 : Int) ≤ _; omega, by show 0 ≤ _; omega⟩ ⟨by show (0 : Int) ≤ 4; omega, by show (4 : Int) ≤ _; omega⟩ l9b l9a) ?_
  rintro e w' ⟨rfl, h2, _⟩
  exact ⟨rfl, h2⟩
theorem l10a : addE ⟨3, 10, 4, 4⟩ lQ6 2 1 [110] 2 mt0 [] = 0 := by decide
theorem l10b : lQ6 4 = none := rfl
theorem l10c : ∃ p, lQ6 1 = some p ∧ p.ents [110] = none ∧ p.ne = 1 := ⟨_, rfl, rfl, rfl⟩
theorem lv10 (H : FsD D X fb mb ⟨3, 10, 4, 4⟩ lQ6 2 lT6 w) : Calls Tryz.prog 26 #[.pointer (some ⟨fb, 0, none⟩), .int .i64 1, .string ⟨#[110]⟩, .agg #[.int .u32 0, .int .u32 0, .int .u32 0, .int .i64 0, .int .i32 0]] w fun e w' => e = .returned (.tuple #[.int .i64 4, .int .i64 0]) ∧ Hid (FsD D X fb mb ⟨3, 10, 4, 5⟩ lQ7 3 lT7 w') := by
  refine Calls.mono (create_ok H l10b ⟨by show (0 : Int) ≤ 4; omega, by show (4 : Int) ≤ _; omega⟩ (by simp [lT6, lT5, lT4, lT3, lT2, lT1]) (by omega) 1 ⟨by omega, by omega⟩ [110] (by simp) (by obtain ⟨p, a, b, c⟩ := l10c; exact ⟨p, a, b, by omega⟩) mt0 l10a) ?_
  rintro e w' ⟨rfl, h2, _⟩
  exact ⟨rfl, h2⟩
theorem lv11 (H : FsD D X fb mb ⟨3, 10, 4, 5⟩ lQ7 3 lT7 w) : Calls Tryz.prog 16 #[.pointer (some ⟨fb, 0, none⟩)] w fun e w' => ∃ a' c', e = .returned (.slice a' 7 c') ∧ Hid (Nw D w') := by
  refine Calls.mono (trace_ok H (by simp [lT7, lT6, lT5, lT4, lT3, lT2, lT1])) ?_
  rintro e w' ⟨a', c', rfl, ⟨_, _, _, _, h3, _⟩, _⟩
  exact ⟨a', c', rfl, h3⟩
end Go.Proofs.YtcogkhcfpgelhabGreat

namespace Go.Proofs.YtcogkhcfpgelhabGreat
open Go.RowKit
set_option linter.unusedVariables false
set_option maxRecDepth 100000
theorem xy_str : str [0#8, 0#8, 120#8, 121#8] = ⟨#[0, 0, 120, 121]⟩ := rfl
set_option maxHeartbeats 8000000 in
theorem lives_any (w : World) : Calls Tryz.prog 8 #[] w fun e w' => e = .returned (.bool true) ∧ Nw w w' := by
  obtain ⟨P, hP⟩ : ∃ P : Ending → World → Prop, P = fun e w' => e = .returned (.bool true) ∧ Nw w w' := ⟨_, rfl⟩
  rw [← hP]
  have HF : Hid (∀ V, Nw w V → P (.returned (.bool true)) V) := fun V hV => by rw [hP]; exact ⟨rfl, hV⟩
  clear hP
  have C0 := tHid (lv0 w)
  go_enter Tryz.func8, Tryz.ntmps8
  go_upto_region 2 with (first | (go_at_call 24; with_reducible refine C0.out.mono ?_; rintro e w1 ⟨fb, mb, rfl, H0⟩))
  clear C0
  have C1 := tHid (lv1 H0.out)
  go_upto_region 5 with (first | (go_at_call 25; with_reducible refine C1.out.mono ?_; rintro e w2 ⟨rfl, H1⟩))
  clear C1 H0
  have C2 := tHid (lv2 H1.out)
  go_upto_region 6 with (first | (go_at_call 26; with_reducible refine C2.out.mono ?_; rintro e w3 ⟨rfl, H2⟩))
  clear C2 H1
  have C3 := tHid (lv3 H2.out)
  go_upto_region 7 with (first | (go_at_call 26; with_reducible refine C3.out.mono ?_; rintro e w4 ⟨rfl, H3⟩))
  clear C3 H2
  have C4 := tHid (lv4 H3.out)
  have C5 : Hid (∀ V, Hid (FsD w Nox fb mb ⟨3, 10, 4, 4⟩ lQ3 3 lT3 V) → Calls Tryz.prog 28 #[.pointer (some ⟨fb, 0, none⟩), .int .i64 1, .string ⟨#[104]⟩, .int .i64 3] V fun e w' => e = .returned (.int .i64 0) ∧ Hid (FsD w Nox fb mb ⟨3, 10, 4, 4⟩ lQ4 3 lT4 w')) := fun V h => lv5 h.out
  have hcv : (convert 38 38 (.slice (some ⟨w4.heap.size, 0, none⟩) 2 2)).run Tryz.prog (w4.alloc (.cells #[.int .u8 120, .int .u8 121] 5)) = .ok (.slice (some ⟨w4.heap.size, 0, none⟩) 2 2) (w4.alloc (.cells #[.int .u8 120, .int .u8 121] 5 (2, 3))) := Lib.run_convert_bytes_const w4 38 5 #[.int .u8 120, .int .u8 121] 2 2 Tryz.underlying38 Tryz.underlying5
  go_upto_region 9 with (first | (go_at_call 27; with_reducible refine C4.out.mono ?_; rintro e w5 ⟨rfl, H4⟩) | (go_at_call 28; with_reducible refine (C5.out _ H4).mono ?_; rintro e w6 ⟨rfl, H5⟩))
  clear C4 C5 hcv H3 H4
  have C6 := tHid (lv6 H5.out)
  go_upto_region 10 with (first | (go_at_call 29; with_reducible refine C6.out.mono ?_; rintro e w7 ⟨a', c', rfl, HS, H6⟩))
  clear C6 H5
  have C7 := tHid (lv7 H6.out)
  go_upto_region 11 with (first | (go_at_call 22; with_reducible refine C7.out.mono ?_; rintro e w8 ⟨rfl, H7⟩))
  clear C7 H6
  obtain ⟨V, hV⟩ : ∃ V, w8.alloc (.cells #[.int .i64 3, .int .i64 2, .int .u32 0, .int .u32 0, .int .u32 0, .int .i64 0, .int .i32 0, .int .i64 2, .int .i64 4] 64) = V := ⟨_, rfl⟩
  have hN : Nw w8 V := by rw [← hV]; exact (Fr.refl _ _).alloc _
  have s7 : V.cell? ⟨w8.heap.size, 7, none⟩ = some (.int .i64 2) := by rw [← hV]; exact (rc (nh w8 _) 7 _ rfl).1
  have hcs : (convert 38 9 (.slice a' 4 c')).run Tryz.prog V = .ok (.string ⟨#[0, 0, 120, 121]⟩) V := by
    have := conv_any ((HS.out.nw H7.out.2).nw hN)
    rw [xy_str] at this
    exact this
  have C8 := tHid (lv8 (H7.out.1.nw hN))
  have C9 : Hid (∀ V, Hid (FsD w Nox fb mb ⟨3, 10, 4, 4⟩ lQ5 3 lT5 V) → Calls Tryz.prog 31 #[.pointer (some ⟨fb, 0, none⟩), .int .i64 1, .string ⟨#[97]⟩] V fun e w' => e = .returned (.int .i64 0) ∧ Hid (FsD w Nox fb mb ⟨3, 10, 4, 4⟩ lQ6 2 lT6 w')) := fun V h => lv9 h.out
  rw [hV]
  clear hV HS H7 hN
  go_upto_region 13 with (first | (go_at_call 30; with_reducible refine C8.out.mono ?_; rintro e w9 ⟨rfl, H8⟩) | (go_at_call 31; with_reducible refine (C9.out _ H8).mono ?_; rintro e wA ⟨rfl, H9⟩))
  clear C8 C9 H8 s7 hcs
  have CA := tHid (lv10 H9.out)
  go_upto_region 14 with (first | (go_at_call 26; with_reducible refine CA.out.mono ?_; rintro e wB ⟨rfl, HA⟩))
  have CB := tHid (lv11 HA.out)
  clear CA H9 HA
  go_wp2_with (first | (go_at_call 16; with_reducible refine CB.out.mono ?_; rintro e wC ⟨a2, c2, rfl, HB⟩))
  exact HF.out _ HB.out
end Go.Proofs.YtcogkhcfpgelhabGreat
