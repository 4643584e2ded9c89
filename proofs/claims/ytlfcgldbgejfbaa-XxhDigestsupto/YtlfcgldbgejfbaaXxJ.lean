import Derived.Test.YtlfcgldbgejfbaaXxI
import Derived.Test.YtlfcgldbgejfbaaXxF
namespace Go.Proofs.Ytlfcgldbgejfbaa
open Go.RowKit
set_option linter.unusedVariables false
theorem box_cell {w : World} {b : Nat} {v : Value} {t : TypeId} (h : w.heap[b]? = some (.cells #[v] t)) : w.cell? ⟨b, 0, none⟩ = some v ∧ w.frozen? ⟨b, 0, none⟩ = false := by
  constructor <;> simp [World.cell?, World.frozen?, h]
theorem stripes_any {α : Type} (T d tot size : Nat) (hs : 0 < size) (hs2 : size ≤ 32) (rest : List By) (hr : rest.length = 32) (enc : α → List Value) (f : α → List By → α) (x : α) (c : Nat) (eg : ∀ args w, (callFunc c args).run Try.prog w = .ok (.enter c args) w) (cap : Array Value) (w : World)
    (hm : Mixes T d size enc f c cap w) (v : Value) (b : List By) (hv : Sl (fun k => k = d) v b w) (ht : tot < 18446744073709551616) (h : DB T d tot rest (enc x) w) :
    Calls Try.prog 35 #[.pointer (some ⟨d, 0, none⟩), v, .int .i64 size, .func (.func c) #[] cap] w fun e w' => (∃ r, e = .returned r) ∧ Wrote T d tot size rest enc f x b w w' := by
  have hform : ∃ a cp, v = .slice a b.length cp ∧ b.length < 9223372036854775808 := by
    rcases hv with ⟨a, h1, h2⟩ | ⟨g, hg, o, c', h1, h2, h3, h4⟩
    · exact ⟨a, 0, by rw [h1, h2]; rfl, by rw [h2]; simp⟩
    · exact ⟨_, _, h1, by omega⟩
  obtain ⟨a, cp, rfl, hbl⟩ := hform
  have hlt := Nat.mod_lt tot hs
  by_cases hz : tot % size = 0
  · exact stripes0 T d tot size hs hs2 rest hr enc f x c eg cap w hm a b cp hv hbl ht h hz
  · by_cases hq : tot % size + b.length < size
    · exact stripesB T d tot size hs hs2 rest hr enc f x c cap w a b cp hv hbl ht h (tot % size) rfl (by omega) hq
    · rcases hv with ⟨a', h1, h2⟩ | ⟨g, hg, o, c', h1, h2, h3, h4⟩
      · rw [h2] at hq; simp at hq; omega
      · injection h1 with h1 _ h1'
        subst h1 h1'
        exact stripesC T d tot size hs hs2 rest hr enc f x c eg cap w hm g o b cp hg h4 h2 h3 ht h (tot % size) (size - tot % size) rfl (by omega) (by omega) (by omega) (by omega)
theorem res_took {α : Type} (size : Nat) (hs : 0 < size) (f : α → List By → α) (ini x' : α) (l b rest' : List By) (hR : Res size f (foldc size f (l.length / size) ini l) (l.drop (l.length / size * size) ++ b) x' rest') :
    x' = foldc size f ((l ++ b).length / size) ini (l ++ b) ∧ rest'.take ((l ++ b).length % size) = (l ++ b).drop ((l ++ b).length / size * size) := by
  obtain ⟨h1, h2⟩ := hR
  have hms := mod_split l.length size
  generalize hq : l.length / size = q at *
  have htl : (l.take (q * size)).length = q * size := by simp; omega
  have he : l ++ b = l.take (q * size) ++ (l.drop (q * size) ++ b) := by rw [← List.append_assoc, List.take_append_drop]
  have hll : (l ++ b).length = (l.drop (q * size) ++ b).length + q * size := by rw [he, List.length_append, htl]; omega
  have hd : (l ++ b).length / size = (l.drop (q * size) ++ b).length / size + q := by rw [hll, Nat.add_mul_div_right _ _ hs]
  have hmd : (l ++ b).length % size = (l.drop (q * size) ++ b).length % size := by rw [hll, Nat.add_mul_mod_self_right]
  have hf : foldc size f q ini l = foldc size f q ini (l.take (q * size)) := by
    have := foldc_pre size f q ini (l.take (q * size)) (l.drop (q * size)) (by omega)
    rw [List.take_append_drop] at this; exact this
  rw [hd, hmd]
  constructor
  · rw [h1, hf, he, Nat.add_comm, foldc_app size f q _ ini _ _ htl]
  · rw [h2, he, Nat.add_mul, Nat.add_comm, ← List.drop_drop]
    congr 1
    exact (List.drop_left' htl).symm

/-- A digest that took l, with the seed s. -/
def Took32 (d : Nat) (s : BitVec 32) (l : List By) (w : World) : Prop := ∃ rest, rest.length = 32 ∧ DB 66 d (l.length % 18446744073709551616) rest (ext32 s (str32 s l)) w ∧ rest.take (l.length % 16) = l.drop (l.length / 16 * 16)
theorem Took32.kept {d : Nat} {s : BitVec 32} {l : List By} {w w' : World} {X : Nat → Prop} (h : Took32 d s l w) (f : Fr X w w') (hx : ¬ X d) : Took32 d s l w' := by
  obtain ⟨rest, h1, h2, h3⟩ := h
  exact ⟨rest, h1, h2.kept f hx, h3⟩
theorem Took32.nw {d : Nat} {s : BitVec 32} {l : List By} {w w' : World} (h : Took32 d s l w) (f : Nw w w') : Took32 d s l w' := h.kept f (fun h => h)
theorem Took32.lt {d : Nat} {s : BitVec 32} {l : List By} {w : World} (h : Took32 d s l w) : d < w.heap.size := by
  obtain ⟨rest, h1, h2, h3⟩ := h
  exact h2.lt
theorem Took32.new {d : Nat} {s : BitVec 32} {w : World} (h : DB 66 d 0 (List.replicate 32 0#8) (ext32 s (ini32 s)) w) : Took32 d s [] w := ⟨_, by simp, h, by simp⟩
theorem eg36 : ∀ args w, (callFunc 36 args).run Try.prog w = .ok (.enter 36 args) w := enters_of Try.func36 (by kernel_rfl) rfl
set_option maxHeartbeats 4000000 in
theorem write32_any (d : Nat) (s : BitVec 32) (l : List By) (v : Value) (b : List By) (w : World) (h : Took32 d s l w) (hv : Sl (fun k => k = d) v b w) :
    Calls Try.prog 20 #[.pointer (some ⟨d, 0, none⟩), v] w fun e w' => (∃ r, e = .returned r) ∧ Took32 d s (l ++ b) w' ∧ Fr (fun k => k = d) w w' := by
  obtain ⟨rest, h1, h2, h3⟩ := h
  have hd := h2.lt
  have hN : Nw w (w.alloc (.cells #[.pointer (some ⟨d, 0, none⟩)] 30)) := (Fr.refl _ _).alloc _
  have hbx : (w.alloc (.cells #[.pointer (some ⟨d, 0, none⟩)] 30)).cell? ⟨w.heap.size, 0, none⟩ = some (.pointer (some ⟨d, 0, none⟩)) := by
    have e : (w.alloc (.cells #[.pointer (some ⟨d, 0, none⟩)] 30)).heap[w.heap.size]? = some (.cells #[.pointer (some ⟨d, 0, none⟩)] 30) := by
      show (w.heap.push _)[w.heap.size]? = _
      simp
    exact (box_cell e).1
  have hne : w.heap.size ≠ d := by omega
  have HM : Mixes 66 d 16 (ext32 s) mix32 36 #[.pointer (some ⟨w.heap.size, 0, none⟩)] (w.alloc (.cells #[.pointer (some ⟨d, 0, none⟩)] 30)) := by
    intro W tot rest x g u p hW hD hr hp hu
    exact mix32_any w.heap.size d tot rest hr s x g u p hp W (hW.cellv hbx hne) hne hD hu
  have HS : Hid (Calls Try.prog 35 #[.pointer (some ⟨d, 0, none⟩), v, .int .i64 16, .func (.func 36) #[] #[.pointer (some ⟨w.heap.size, 0, none⟩)]] (w.alloc (.cells #[.pointer (some ⟨d, 0, none⟩)] 30)) fun e w' => (∃ r, e = .returned r) ∧ Took32 d s (l ++ b) w' ∧ Fr (fun k => k = d) w w') := by
    refine (stripes_any 66 d _ 16 (by decide) (by decide) rest h1 (ext32 s) mix32 (str32 s l) 36 eg36 _ _ HM v b (hv.nw hN) (Nat.mod_lt _ (by decide)) (h2.nw hN)).mono ?_
    rintro e w' ⟨hr, rest', x', k1, k2, k3, k4⟩
    refine ⟨hr, ?_, hN.any.trans k3⟩
    rw [Nat.mod_mod_of_dvd _ (by decide : 16 ∣ 18446744073709551616), h3] at k4
    obtain ⟨e1, e2⟩ := res_took 16 (by decide) mix32 (ini32 s) x' l b rest' k4
    refine ⟨rest', k2, ?_, e2⟩
    show DB 66 d ((l ++ b).length % 18446744073709551616) rest' (ext32 s (foldc 16 mix32 ((l ++ b).length / 16) (ini32 s) (l ++ b))) w'
    rw [← e1, List.length_append]
    rw [Nat.mod_add_mod] at k1
    exact k1
  clear h2 hv HM hbx
  go_enter Try.func20, Try.ntmps20
  have hmf : ∀ (fn : Fn) (first cap : Array Value) (w : World), (Instr.makeFunc fn first cap).run Try.prog w = .ok (.func fn first cap) w := fun _ _ _ _ => rfl
  go_wp2_with fail
  with_reducible refine HS.out.mono ?_
  rintro e w1 ⟨⟨r, rfl⟩, hT, hF⟩
  go_wp2
  go_end0
  exact ⟨⟨_, rfl⟩, hT, hF⟩

/-- A digest that took l, with the seed s. -/
def Took64 (d : Nat) (s : BitVec 64) (l : List By) (w : World) : Prop := ∃ rest, rest.length = 32 ∧ DB 68 d (l.length % 18446744073709551616) rest (ext64 s (str64 s l)) w ∧ rest.take (l.length % 32) = l.drop (l.length / 32 * 32)
theorem Took64.kept {d : Nat} {s : BitVec 64} {l : List By} {w w' : World} {X : Nat → Prop} (h : Took64 d s l w) (f : Fr X w w') (hx : ¬ X d) : Took64 d s l w' := by
  obtain ⟨rest, h1, h2, h3⟩ := h
  exact ⟨rest, h1, h2.kept f hx, h3⟩
theorem Took64.nw {d : Nat} {s : BitVec 64} {l : List By} {w w' : World} (h : Took64 d s l w) (f : Nw w w') : Took64 d s l w' := h.kept f (fun h => h)
theorem Took64.lt {d : Nat} {s : BitVec 64} {l : List By} {w : World} (h : Took64 d s l w) : d < w.heap.size := by
  obtain ⟨rest, h1, h2, h3⟩ := h
  exact h2.lt
theorem Took64.new {d : Nat} {s : BitVec 64} {w : World} (h : DB 68 d 0 (List.replicate 32 0#8) (ext64 s (ini64 s)) w) : Took64 d s [] w := ⟨_, by simp, h, by simp⟩
theorem eg39 : ∀ args w, (callFunc 39 args).run Try.prog w = .ok (.enter 39 args) w := enters_of Try.func39 (by kernel_rfl) rfl
set_option maxHeartbeats 4000000 in
theorem write64_any (d : Nat) (s : BitVec 64) (l : List By) (v : Value) (b : List By) (w : World) (h : Took64 d s l w) (hv : Sl (fun k => k = d) v b w) :
    Calls Try.prog 21 #[.pointer (some ⟨d, 0, none⟩), v] w fun e w' => (∃ r, e = .returned r) ∧ Took64 d s (l ++ b) w' ∧ Fr (fun k => k = d) w w' := by
  obtain ⟨rest, h1, h2, h3⟩ := h
  have hd := h2.lt
  have hN : Nw w (w.alloc (.cells #[.pointer (some ⟨d, 0, none⟩)] 32)) := (Fr.refl _ _).alloc _
  have hbx : (w.alloc (.cells #[.pointer (some ⟨d, 0, none⟩)] 32)).cell? ⟨w.heap.size, 0, none⟩ = some (.pointer (some ⟨d, 0, none⟩)) := by
    have e : (w.alloc (.cells #[.pointer (some ⟨d, 0, none⟩)] 32)).heap[w.heap.size]? = some (.cells #[.pointer (some ⟨d, 0, none⟩)] 32) := by
      show (w.heap.push _)[w.heap.size]? = _
      simp
    exact (box_cell e).1
  have hne : w.heap.size ≠ d := by omega
  have HM : Mixes 68 d 32 (ext64 s) mix64 39 #[.pointer (some ⟨w.heap.size, 0, none⟩)] (w.alloc (.cells #[.pointer (some ⟨d, 0, none⟩)] 32)) := by
    intro W tot rest x g u p hW hD hr hp hu
    exact mix64_any w.heap.size d tot rest hr s x g u p hp W (hW.cellv hbx hne) hne hD hu
  have HS : Hid (Calls Try.prog 35 #[.pointer (some ⟨d, 0, none⟩), v, .int .i64 32, .func (.func 39) #[] #[.pointer (some ⟨w.heap.size, 0, none⟩)]] (w.alloc (.cells #[.pointer (some ⟨d, 0, none⟩)] 32)) fun e w' => (∃ r, e = .returned r) ∧ Took64 d s (l ++ b) w' ∧ Fr (fun k => k = d) w w') := by
    refine (stripes_any 68 d _ 32 (by decide) (by decide) rest h1 (ext64 s) mix64 (str64 s l) 39 eg39 _ _ HM v b (hv.nw hN) (Nat.mod_lt _ (by decide)) (h2.nw hN)).mono ?_
    rintro e w' ⟨hr, rest', x', k1, k2, k3, k4⟩
    refine ⟨hr, ?_, hN.any.trans k3⟩
    rw [Nat.mod_mod_of_dvd _ (by decide : 32 ∣ 18446744073709551616), h3] at k4
    obtain ⟨e1, e2⟩ := res_took 32 (by decide) mix64 (ini64 s) x' l b rest' k4
    refine ⟨rest', k2, ?_, e2⟩
    show DB 68 d ((l ++ b).length % 18446744073709551616) rest' (ext64 s (foldc 32 mix64 ((l ++ b).length / 32) (ini64 s) (l ++ b))) w'
    rw [← e1, List.length_append]
    rw [Nat.mod_add_mod] at k1
    exact k1
  clear h2 hv HM hbx
  go_enter Try.func21, Try.ntmps21
  have hmf : ∀ (fn : Fn) (first cap : Array Value) (w : World), (Instr.makeFunc fn first cap).run Try.prog w = .ok (.func fn first cap) w := fun _ _ _ _ => rfl
  go_wp2_with fail
  with_reducible refine HS.out.mono ?_
  rintro e w1 ⟨⟨r, rfl⟩, hT, hF⟩
  go_wp2
  go_end0
  exact ⟨⟨_, rfl⟩, hT, hF⟩
end Go.Proofs.Ytlfcgldbgejfbaa
