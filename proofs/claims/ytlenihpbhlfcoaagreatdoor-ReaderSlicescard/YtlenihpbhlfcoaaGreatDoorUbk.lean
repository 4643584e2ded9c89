import Derived.Test.YtlenihpbhlfcoaaGreatDoorUbj
set_option maxHeartbeats 8000000
set_option maxRecDepth 100000
set_option linter.unusedSimpArgs false
set_option linter.unusedVariables false
namespace Go.Proofs.YtlenihpbhlfcoaaGreatDoor
open Go.RowKit Go.Deep
def nS (o : Option ByteArray) : ByteArray := o.getD ⟨#[]⟩
def nB (o : Option ByteArray) : Bool := o.isSome
theorem tx16_eq (o : Option ByteArray) : tx16 o = #[.string (nS o), .bool (nB o)] := by cases o <;> rfl
def ahC (th : Bool) (fr : Int) (vL : Value) (A : Ah) : Array Value := #[.bool th, .int .i64 fr, vL, .string (nS A.name), .bool (nB A.name), .string (nS A.link), .bool (nB A.link)]
def enC (x : It) (sz : Int) : Array Value := #[.string x.name, .int .i64 (x.kind : Nat), .int .u32 (x.mode : Nat), .int .u32 (x.uid : Nat), .int .u32 (x.gid : Nat), .int .i64 x.time, .int .i32 (x.nano : Nat), .string x.user, .string x.group, .string x.link, .int .i64 sz, .int .u8 x.typ.toNat]
def mtE (h : Hr) (P : List Pr) : Nat := if (idP P kUid h.uid.toNat).2 ≠ 0 then (idP P kUid h.uid.toNat).2 else if (idP P kGid h.gid.toNat).2 ≠ 0 then (idP P kGid h.gid.toNat).2 else (tmP P h.time).2.2
theorem mtA_bad {h : Hr} {P : List Pr} {q : Nat} {w w' : World} {e : Ending} (H : MtA h P q w e w') (h0 : mtE h P ≠ 0) : e = gvR (q : Nat) (mtE h P : Nat) ∧ Nw w w' := by
 obtain ⟨hN, H⟩ := H;refine ⟨?_, hN⟩;unfold mtE at h0 ⊢;rcases H with ⟨h1, rfl⟩ | ⟨h1, H⟩
 ·rw [if_pos h1]
 rw [if_neg (by omega)] at h0 ⊢;rcases H with ⟨h2, rfl⟩ | ⟨h2, H⟩
 ·rw [if_pos h2]
 rw [if_neg (by omega)] at h0 ⊢;rcases H with ⟨h3, rfl⟩ | ⟨h3, H⟩
 ·rfl
 ·omega
theorem mtA_ok {h : Hr} {P : List Pr} {q : Nat} {w w' : World} {e : Ending} (H : MtA h P q w e w') (h0 : mtE h P = 0) : e = .returned (.agg (mtC h (idP P kUid h.uid.toNat).1 (idP P kGid h.gid.toNat).1 (tmP P h.time))) ∧ Nw w w' := by
 obtain ⟨hN, H⟩ := H;refine ⟨?_, hN⟩;unfold mtE at h0;rcases H with ⟨h1, rfl⟩ | ⟨h1, H⟩
 ·rw [if_pos h1] at h0; omega
 rw [if_neg (by omega)] at h0;rcases H with ⟨h2, rfl⟩ | ⟨h2, H⟩
 ·rw [if_pos h2] at h0; omega
 rw [if_neg (by omega)] at h0;rcases H with ⟨h3, rfl⟩ | ⟨h3, rfl⟩
 ·omega
 ·rfl
def EsA (h : Hr) (P : List Pr) (A : Ah) (q : Nat) (w : World) (e : Ending) (w' : World) : Prop :=
 Nw w w' ∧ ((mtE h P ≠ 0 ∧ e = gvR (q : Nat) (mtE h P : Nat)) ∨ (mtE h P = 0 ∧ e = .returned (.agg (enC (itR h P A 0 (idP P kUid h.uid.toNat).1 (idP P kGid h.gid.toNat).1 (tmP P h.time)) 0))))
theorem kpath_str : str kPath = ⟨#[112, 97, 116, 104]⟩ := by decide +kernel
theorem kunm_str : str kUname = ⟨#[117, 110, 97, 109, 101]⟩ := by decide +kernel
theorem kgnm_str : str kGname = ⟨#[103, 110, 97, 109, 101]⟩ := by decide +kernel
theorem klnk_str : str kLinkpath = ⟨#[108, 105, 110, 107, 112, 97, 116, 104]⟩ := by decide +kernel
abbrev zeE : Array Value := #[.string ⟨#[]⟩, .int .i64 0, .int .u32 0, .int .u32 0, .int .u32 0, .int .i64 0, .int .i32 0, .string ⟨#[]⟩, .string ⟨#[]⟩, .string ⟨#[]⟩, .int .i64 0, .int .u8 0]
theorem alR {W U : World} {o : Obj} (k : Nw W (U.alloc o)) : (U.alloc o).heap[U.heap.size]? = some o := newHeap U o
def EK (NM : ByteArray) (M0 M1 M2 : Nat) (MT : Int × Nat × Nat) (US GR : ByteArray) (kd : Nat) (L : ByteArray) (T : By) : Array Value := #[.string NM, .int .i64 (kd : Nat), .int .u32 (M0 : Nat), .int .u32 (M1 : Nat), .int .u32 (M2 : Nat), .int .i64 MT.1, .int .i32 (MT.2.1 : Nat), .string US, .string GR, .string L, .int .i64 0, .int .u8 T.toNat]
theorem ekI {NM : ByteArray} {M0 M1 M2 : Nat} {MT : Int × Nat × Nat} {US GR : ByteArray} {kd : Nat} {L : ByteArray} {T : By} : (Tryz.prog.info? 32).map (·.size) = some (EK NM M0 M1 M2 MT US GR kd L T).size := by
 have q1 : (Tryz.prog.info? 32).map (·.size) = some 12 := by kernel_rfl
 exact q1
theorem qsentry_any {X : Nat → Prop} (vP : Value) (P : List Pr) (q : Nat) (h : Hr) (A : Ah) (th : Bool) (fr : Int) (vL : Value) (hu : 0 ≤ h.uid ∧ h.uid ≤ 9223372036854775807) (hg : 0 ≤ h.gid ∧ h.gid ≤ 9223372036854775807) (hnm : h.pfx.size + 1 + h.name.size ≤ 140737488351232) (hNM : (txP14 P kPath (A.name.getD (nmF h))).size ≤ 140737488351232) (w : World) (hP : SlR RP X vP P w) (hlen : P.length ≤ 1000000000) (hv : VlB P) (hE : Env w) :
  Calls Tryz.prog 56 #[.agg #[vP, .int .i64 (q : Nat)], .agg h.C, .agg (ahC th fr vL A)] w (EsA h P A q w) := by
 refine asP fun Q hQ => ?_
 obtain ⟨a, c, rfl⟩ := ps_form hP;obtain ⟨kb, hkb⟩ : ∃ kb, w.heap.size = kb := ⟨_, rfl⟩;obtain ⟨hb, hhb⟩ : ∃ hb, kb + 1 = hb := ⟨_, rfl⟩;obtain ⟨ab, hab⟩ : ∃ ab, hb + 1 = ab := ⟨_, rfl⟩;obtain ⟨ob, hob⟩ : ∃ ob, ab + 1 = ob := ⟨_, rfl⟩;obtain ⟨CH, hCH⟩ : ∃ CH : List Value, CH = h.C.toList := ⟨_, rfl⟩;have hCA : h.C = CH.toArray := by rw [hCH]
 have HCA := tHid hCA;obtain ⟨AC, hAC⟩ : ∃ AC, AC = ahC th fr vL A := ⟨_, rfl⟩;obtain ⟨W3, hW3⟩ : ∃ W3, (((w.alloc (.cells #[.slice a P.length c, .int .i64 (q : Nat)] 121)).alloc (.cells CH.toArray 62)).alloc (.cells AC 85)).alloc (.cells zeE 32) = W3 := ⟨_, rfl⟩;have s1 : (w.alloc (.cells #[.slice a P.length c, .int .i64 (q : Nat)] 121)).heap.size = kb + 1 := by rw [← hkb]; simp
 have s2 : ((w.alloc (.cells #[.slice a P.length c, .int .i64 (q : Nat)] 121)).alloc (.cells CH.toArray 62)).heap.size = hb + 1 := by rw [← hhb, ← s1]; simp
 have s3 : (((w.alloc (.cells #[.slice a P.length c, .int .i64 (q : Nat)] 121)).alloc (.cells CH.toArray 62)).alloc (.cells AC 85)).heap.size = ab + 1 := by rw [← hab, ← s2]; simp
 have s4 : W3.heap.size = ob + 1 := by rw [← hob, ← hW3, ← s3]; simp
 have n0 : Nw w W3 := by rw [← hW3]; exact ((((Fr.refl _ _).alloc _).alloc _).alloc _).alloc _
 have rs : W3.heap[kb]? = some (.cells #[.slice a P.length c, .int .i64 (q : Nat)] 121) := by rw [← hW3, ← hkb]; exact Nw.heap ((((Fr.refl _ _).alloc _).alloc _).alloc _) (newHeap _ _)
 have rh : W3.heap[hb]? = some (.cells CH.toArray 62) := by rw [← hW3, ← hhb, ← s1]; exact Nw.heap (((Fr.refl _ _).alloc _).alloc _) (newHeap _ _)
 have ra : W3.heap[ab]? = some (.cells AC 85) := by rw [← hW3, ← hab, ← s2]; exact Nw.heap ((Fr.refl _ _).alloc _) (newHeap _ _)
 have ro : W3.heap[ob]? = some (.cells zeE 32) := by rw [← hW3, ← hob, ← s3]; exact newHeap _ _
 obtain ⟨SS, hSS⟩ : ∃ SS : World → Prop, SS = fun U => (U.cell? ⟨kb, 0, none⟩ = some (.slice a P.length c) ∧ U.cell? ⟨kb, 1, none⟩ = some (.int .i64 (q : Nat)) ∧ U.cell? ⟨ab, 3, none⟩ = some (.string (nS A.name)) ∧ U.cell? ⟨ab, 4, none⟩ = some (.bool (nB A.name)) ∧ U.cell? ⟨hb, 10, none⟩ = some (.string h.user) ∧ U.cell? ⟨hb, 11, none⟩ = some (.string h.group)) ∧ U.rangeAt hb 0 CH ∧ Nw W3 U := ⟨_, rfl⟩
 have KEY : Hid (∀ U, Nw W3 U → (fun U => (U.cell? ⟨kb, 0, none⟩ = some (.slice a P.length c) ∧ U.cell? ⟨kb, 1, none⟩ = some (.int .i64 (q : Nat)) ∧ U.cell? ⟨ab, 3, none⟩ = some (.string (nS A.name)) ∧ U.cell? ⟨ab, 4, none⟩ = some (.bool (nB A.name)) ∧ U.cell? ⟨hb, 10, none⟩ = some (.string h.user) ∧ U.cell? ⟨hb, 11, none⟩ = some (.string h.group)) ∧ U.rangeAt hb 0 CH ∧ Nw W3 U) U) := fun U hU => by
  have r1 := Nw.heap hU rs;have r2 := Nw.heap hU rh;have r3 := Nw.heap hU ra;rw [hAC] at r3;refine ⟨⟨cell_of r1 0 _ rfl, cell_of r1 1 _ rfl, cell_of r3 3 _ rfl, cell_of r3 4 _ rfl, cell_of r2 10 _ (by rw [← hCA]; rfl), cell_of r2 11 _ (by rw [← hCA]; rfl)⟩, ?_, hU⟩;intro j v hv;rw [Nat.zero_add];exact cell_of r2 j v (by simpa using hv)
 have HP3 : SlR RP X (.slice a P.length c) P W3 := hP.nw n0;have HE3 : Env W3 := hE.nw n0;obtain ⟨N0, hN0⟩ : ∃ N0, N0 = nmF h := ⟨_, rfl⟩;obtain ⟨N1, hN1⟩ : ∃ N1, N1 = A.name.getD N0 := ⟨_, rfl⟩;obtain ⟨NM, hNMe⟩ : ∃ NM, NM = txP14 P kPath N1 := ⟨_, rfl⟩;obtain ⟨US, hUS⟩ : ∃ US, US = txP14 P kUname h.user := ⟨_, rfl⟩;obtain ⟨GR, hGR⟩ : ∃ GR, GR = txP14 P kGname h.group := ⟨_, rfl⟩;have HC1 : Hid (∀ V, Nw W3 V → Calls Tryz.prog 88 #[.agg CH.toArray] V fun e w' => e = .returned (.string N0) ∧ Nw V w') := fun V hV => by
  rw [← hCA, hN0]; exact name_any h V hnm
 have HC2 : Hid (∀ V, Nw W3 V → Calls Tryz.prog 87 #[.agg #[.string (nS A.name), .bool (nB A.name)], .string N0] V fun e w' => e = .returned (.string N1) ∧ Nw V w') := fun V hV => by
  rw [← tx16_eq, hN1]; exact qor_any A.name N0 V
 have HTX : ∀ (k : Bs) (o : ByteArray) V, Nw W3 V → Calls Tryz.prog 86 #[.agg #[.slice a P.length c, .int .i64 (q : Nat)], .string (str k), .string o] V fun e w' => e = .returned (.string (txP14 P k o)) ∧ Nw V w' := fun k o V hV => qstext_any _ P q k o V (HP3.nw hV) hlen
 have HC3 : Hid (∀ V, Nw W3 V → Calls Tryz.prog 86 #[.agg #[.slice a P.length c, .int .i64 (q : Nat)], .string ⟨#[112, 97, 116, 104]⟩, .string N1] V fun e w' => e = .returned (.string NM) ∧ Nw V w') := fun V hV => by
  rw [hNMe, ← kpath_str]; exact HTX _ _ V hV
 have HC5 : Hid (∀ V, Nw W3 V → Calls Tryz.prog 86 #[.agg #[.slice a P.length c, .int .i64 (q : Nat)], .string ⟨#[117, 110, 97, 109, 101]⟩, .string h.user] V fun e w' => e = .returned (.string US) ∧ Nw V w') := fun V hV => by
  rw [hUS, ← kunm_str]; exact HTX _ _ V hV
 have HC6 : Hid (∀ V, Nw W3 V → Calls Tryz.prog 86 #[.agg #[.slice a P.length c, .int .i64 (q : Nat)], .string ⟨#[103, 110, 97, 109, 101]⟩, .string h.group] V fun e w' => e = .returned (.string GR) ∧ Nw V w') := fun V hV => by
  rw [hGR, ← kgnm_str]; exact HTX _ _ V hV
 have HC40 : ∀ V, Nw W3 V → Calls Tryz.prog 89 #[.agg #[.slice a P.length c, .int .i64 (q : Nat)], .agg CH.toArray] V (MtA h P q V) := fun V hV => by
  rw [← hCA]; exact qsmeta_any _ P q h hu hg V (HP3.nw hV) hlen hv (HE3.nw hV)
 have HCHI : Hid ((Tryz.prog.info? 62).map (·.size) = some CH.length) := by
  show _ = _;rw [hCH, Array.length_toList]; kernel_rfl
 unfold zeE at hW3;have HW3 := tHid hW3;have HN0w := tHid n0;have HS4 := tHid s4;have HRH := tHid rh;have HRS := tHid rs;have HRA := tHid ra;have HRO := tHid ro;clear s1 s2 s3 hP hE HE3 HP3 rs rh ra ro hW3 hCA hCH;rw [HCA.out];rw [← hAC];by_cases hm : mtE h P = 0
 ·have HC4 : Hid (∀ V, Nw W3 V → Calls Tryz.prog 89 #[.agg #[.slice a P.length c, .int .i64 (q : Nat)], .agg CH.toArray] V fun e w' => e = .returned (.agg (mtC h (idP P kUid h.uid.toNat).1 (idP P kGid h.gid.toNat).1 (tmP P h.time))) ∧ Nw V w') := fun V hV => (HC40 V hV).mono (fun e w' H => mtA_ok H hm)
  unfold mtC at HC4;obtain ⟨M0, hM0⟩ : ∃ M0 : Nat, M0 = (h.mode % 4096).toNat := ⟨_, rfl⟩;obtain ⟨M1, hM1⟩ : ∃ M1 : Nat, M1 = (idP P kUid h.uid.toNat).1 := ⟨_, rfl⟩;obtain ⟨M2, hM2⟩ : ∃ M2 : Nat, M2 = (idP P kGid h.gid.toNat).1 := ⟨_, rfl⟩;obtain ⟨MT, hMT⟩ : ∃ MT : Int × Nat × Nat, MT = tmP P h.time := ⟨_, rfl⟩;rw [← hM0, ← hM1, ← hM2, ← hMT] at HC4
  obtain ⟨E1, hE1⟩ : ∃ E1 : Array Value, E1 = #[.string NM, .int .i64 0, .int .u32 (M0 : Nat), .int .u32 (M1 : Nat), .int .u32 (M2 : Nat), .int .i64 MT.1, .int .i32 (MT.2.1 : Nat), .string US, .string GR, .string ⟨#[]⟩, .int .i64 0, .int .u8 0] := ⟨_, rfl⟩;have HE1 : Hid ((Value.agg #[.string NM, .int .i64 0, .int .u32 (M0 : Nat), .int .u32 (M1 : Nat), .int .u32 (M2 : Nat), .int .i64 MT.1, .int .i32 (MT.2.1 : Nat), .string US, .string GR, .string ⟨#[]⟩, .int .i64 0, .int .u8 0]) = Value.agg E1) := by rw [hE1]; rfl
  have HE1I : Hid ((Tryz.prog.info? 32).map (·.size) = some E1.size) := by show _ = _; rw [hE1]; kernel_rfl
  have HE1S : Hid (zeE.size = E1.size) := by show _ = _; rw [hE1]; rfl
  have HE1O : Hid (E1.all (·.oneCell') = true) := by show _ = _; rw [hE1]; simp [Value.oneCell']
  have HFIN : Hid (∀ V g, Nw W3 V → V.heap[g]? = some (.cells zeE 32) → W3.heap.size ≤ g → (V.setRow g E1).heap[g]? = some (.cells E1 32) ∧ Nw W3 (V.setRow g E1)) := fun V g hV hr hg => ⟨setRow_heap _ _ _ _ 32 _ hr, hV.setRow g E1 (.inr hg)⟩
  obtain ⟨kd, hkd⟩ : ∃ kd : Nat, kd = kdR h NM := ⟨_, rfl⟩;obtain ⟨lk, hlk⟩ : ∃ lk, lk = A.link.getD h.link := ⟨_, rfl⟩;obtain ⟨LK, hLK⟩ : ∃ LK, LK = txP14 P kLinkpath lk := ⟨_, rfl⟩;have HQO : Hid (∀ V L T, Nw w V → L = (if kd = 3 ∨ kd = 4 then LK else str []) → T = (if kd = 5 then h.typ else 0#8) → Q (.returned (.agg (EK NM M0 M1 M2 MT US GR kd L T))) V) := fun V L T hV hL hT => by
   rw [hQ];refine ⟨hV, .inr ⟨hm, ?_⟩⟩;rw [hL, hT, hkd, hLK, hlk, hM0, hM1, hM2, hMT, hUS, hGR, hNMe, hN1, hN0];rfl
  have HKD : Hid (∀ V, Calls Tryz.prog 90 #[.agg CH.toArray, .string NM] V fun e w' => e = .returned (.int .i64 (kd : Nat)) ∧ Nw V w') := fun V => by
   rw [← HCA.out, hkd];exact qkindOf_any h NM (by rw [hNMe, hN1, hN0]; exact hNM) V
  have HL1 : Hid (∀ V, Calls Tryz.prog 87 #[.agg #[.string (nS A.link), .bool (nB A.link)], .string h.link] V fun e w' => e = .returned (.string lk) ∧ Nw V w') := fun V => by
   rw [← tx16_eq, hlk]; exact qor_any A.link h.link V
  have HL2 : Hid (∀ V, Nw W3 V → Calls Tryz.prog 86 #[.agg #[.slice a P.length c, .int .i64 (q : Nat)], .string ⟨#[108, 105, 110, 107, 112, 97, 116, 104]⟩, .string lk] V fun e w' => e = .returned (.string LK) ∧ Nw V w') := fun V hV => by
   rw [hLK, ← klnk_str]; exact HTX _ _ V hV
  have HR3 : Hid (∀ U, Nw W3 U → U.cell? ⟨kb, 0, none⟩ = some (.slice a P.length c) ∧ U.cell? ⟨kb, 1, none⟩ = some (.int .i64 (q : Nat)) ∧ U.cell? ⟨ab, 5, none⟩ = some (.string (nS A.link)) ∧ U.cell? ⟨ab, 6, none⟩ = some (.bool (nB A.link)) ∧ U.cell? ⟨hb, 9, none⟩ = some (.string h.link) ∧ U.cell? ⟨hb, 8, none⟩ = some (.int .u8 h.typ.toNat) ∧ U.heap[hb]? = some (.cells CH.toArray 62) ∧ U.heap[ob]? = some (.cells zeE 32)) := fun U hU => by
   have r1 := Nw.heap hU HRS.out;have r2 := Nw.heap hU HRH.out;have r3 := Nw.heap hU HRA.out;rw [hAC] at r3;exact ⟨cell_of r1 0 _ rfl, cell_of r1 1 _ rfl, cell_of r3 5 _ rfl, cell_of r3 6 _ rfl, cell_of r2 9 _ (by rw [← HCA.out]; rfl), cell_of r2 8 _ (by rw [← HCA.out]; rfl), r2, Nw.heap hU HRO.out⟩
  have HEND : Hid (∀ V L T, Nw W3 V → L = (if kd = 3 ∨ kd = 4 then LK else str []) → T = (if kd = 5 then h.typ else 0#8) → ∃ W5, V.setRow ob (EK NM M0 M1 M2 MT US GR kd L T) = W5 ∧ V.heap[ob]? = some (.cells zeE 32) ∧ (Tryz.prog.info? 32).map (·.size) = some (EK NM M0 M1 M2 MT US GR kd L T).size ∧ zeE.size = (EK NM M0 M1 M2 MT US GR kd L T).size ∧ (EK NM M0 M1 M2 MT US GR kd L T).all (·.oneCell') = true ∧ Hid (∀ tmps : Array Value, tmps.getD 6 undef = .pointer (some ⟨ob, 0, none⟩) → bodyPost Tryz.prog Tryz.f56 Q .ret ⟨tmps, []⟩ W5)) := fun V L T hV hL hT => by
   have r3 := (HR3.out V hV).2.2.2.2.2.2.2;refine ⟨_, rfl, r3, ekI, rfl, by simp [EK, Value.oneCell'], fun tmps g4 => ?_⟩;refine bodyPost_ret (results_cell_row (P := Tryz.prog) (p := 6) (ty := 32) rfl _ _ ob 32 _ (0, 0) _ g4 (setRow_heap _ _ _ _ 32 _ r3) Tryz.underlying32 rfl ekI) rfl ?_;refine HQO.out _ L T ?_ hL hT;exact (HN0w.out.trans hV).then ((Fr.refl _ _).setRow ob _ (.inl rfl) : Fr (fun k => k = ob) V _) (fun i hi => .inr (by omega))
  have hE1' : E1 = EK NM M0 M1 M2 MT US GR 0 (str []) 0#8 := by rw [hE1]; rfl
  have HE1' := tHid hE1';clear hE1';clear hSS hN0 hN1 hNMe hUS hGR hAC n0 s4 hE1 hkd hlk hLK hQ HC40 HTX hm hM0 hM1 hM2 hMT;go_enter Tryz.func56, Tryz.ntmps56;go_upto_region 1 with fail;rw [HW3.out];go_cut [7, 26] (fun v7 v26 wy => ∃ g wx, v7 = .pointer (some ⟨g, 0, none⟩) ∧ v26 = .agg E1 ∧ wy = wx ∧ Hid (wx.heap[g]? = some (.cells E1 32) ∧ Nw W3 wx ∧ W3.heap.size ≤ g))
  case first =>
   refine wp_region_held_drew (S := fun U => (U.cell? ⟨kb, 0, none⟩ = some (.slice a P.length c) ∧ U.cell? ⟨kb, 1, none⟩ = some (.int .i64 (q : Nat)) ∧ U.cell? ⟨ab, 3, none⟩ = some (.string (nS A.name)) ∧ U.cell? ⟨ab, 4, none⟩ = some (.bool (nB A.name)) ∧ U.cell? ⟨hb, 10, none⟩ = some (.string h.user) ∧ U.cell? ⟨hb, 11, none⟩ = some (.string h.group)) ∧ U.rangeAt hb 0 CH ∧ Nw W3 U) (by kernel_rfl) (KEY.out _ (Fr.refl _ _).drew) (fun hHeld => ?_)
   refine tkH (i := 0) (oi := ⟨some 8, .load 121 (.tmp 3), 121, "entry.go:93", #[], none⟩) (v := ?_) rfl ?_ ?_;rotate_left
   ·intro U hSw; obtain ⟨⟨s0, s1, s2, s3, s4, s5⟩, _, _⟩ := hSw; (go_simp <;> with_reducible rfl)
   try simp only [Act.put, nz1, nz2, nz3]
   refine tkH (i := 1) (oi := ⟨some 9, .fieldAddr 85 (.tmp 5) 3, 0, "entry.go:93", #[], none⟩) (v := ?_) rfl ?_ ?_;rotate_left
   ·intro U hSw; obtain ⟨⟨s0, s1, s2, s3, s4, s5⟩, _, _⟩ := hSw; (go_simp <;> with_reducible rfl)
   try simp only [Act.put, nz1, nz2, nz3]
   refine tkH (i := 2) (oi := ⟨some 10, .load 83 (.tmp 9), 83, "entry.go:93", #[⟨1, .data⟩], none⟩) (v := ?_) rfl ?_ ?_;rotate_left
   ·intro U hSw; obtain ⟨⟨s0, s1, s2, s3, s4, s5⟩, _, _⟩ := hSw; (go_simp <;> with_reducible rfl)
   try simp only [Act.put, nz1, nz2, nz3]
   refine wpAnyH_take (i := 3) (oi := ⟨some 11, .load 62 (.tmp 4), 62, "entry.go:93", #[], none⟩) (v := .agg CH.toArray) rfl (by kernel_rfl) (by kernel_rfl) (by kernel_rfl) (fun _ _ _ h => h) (yieldsIf_load_mid (by rfl) _ _ rfl hb 0 rfl CH _ (fun U hU => hU.2.1) Tryz.underlying62 rfl HCHI.out) (by assumption) ?_;try simp only [Act.put, nz1, nz2, nz3]
   refine tkH (i := 7) (oi := ⟨some 15, .load 121 (.tmp 3), 121, "entry.go:93", #[], none⟩) (v := ?_) rfl ?_ ?_;rotate_left
   ·intro U hSw; obtain ⟨⟨s0, s1, s2, s3, s4, s5⟩, _, _⟩ := hSw; (go_simp <;> with_reducible rfl)
   try simp only [Act.put, nz1, nz2, nz3]
   refine wpAnyH_take (i := 8) (oi := ⟨some 16, .load 62 (.tmp 4), 62, "entry.go:93", #[], none⟩) (v := .agg CH.toArray) rfl (by kernel_rfl) (by kernel_rfl) (by kernel_rfl) (fun _ _ _ h => h) (yieldsIf_load_mid (by rfl) _ _ rfl hb 0 rfl CH _ (fun U hU => hU.2.1) Tryz.underlying62 rfl HCHI.out) (by assumption) ?_;try simp only [Act.put, nz1, nz2, nz3]
   refine tkH (i := 10) (oi := ⟨some 18, .load 121 (.tmp 3), 121, "entry.go:93", #[], none⟩) (v := ?_) rfl ?_ ?_;rotate_left
   ·intro U hSw; obtain ⟨⟨s0, s1, s2, s3, s4, s5⟩, _, _⟩ := hSw; (go_simp <;> with_reducible rfl)
   try simp only [Act.put, nz1, nz2, nz3]
   refine tkH (i := 11) (oi := ⟨some 19, .fieldAddr 62 (.tmp 4) 10, 0, "entry.go:93", #[], none⟩) (v := ?_) rfl ?_ ?_;rotate_left
   ·intro U hSw; obtain ⟨⟨s0, s1, s2, s3, s4, s5⟩, _, _⟩ := hSw; (go_simp <;> with_reducible rfl)
   try simp only [Act.put, nz1, nz2, nz3]
   refine tkH (i := 12) (oi := ⟨some 20, .load 9 (.tmp 19), 9, "entry.go:93", #[⟨11, .data⟩], none⟩) (v := ?_) rfl ?_ ?_;rotate_left
   ·intro U hSw; obtain ⟨⟨s0, s1, s2, s3, s4, s5⟩, _, _⟩ := hSw; (go_simp <;> with_reducible rfl)
   try simp only [Act.put, nz1, nz2, nz3]
   refine tkH (i := 14) (oi := ⟨some 22, .load 121 (.tmp 3), 121, "entry.go:93", #[], none⟩) (v := ?_) rfl ?_ ?_;rotate_left
   ·intro U hSw; obtain ⟨⟨s0, s1, s2, s3, s4, s5⟩, _, _⟩ := hSw; (go_simp <;> with_reducible rfl)
   try simp only [Act.put, nz1, nz2, nz3]
   refine tkH (i := 15) (oi := ⟨some 23, .fieldAddr 62 (.tmp 4) 11, 0, "entry.go:93", #[], none⟩) (v := ?_) rfl ?_ ?_;rotate_left
   ·intro U hSw; obtain ⟨⟨s0, s1, s2, s3, s4, s5⟩, _, _⟩ := hSw; (go_simp <;> with_reducible rfl)
   try simp only [Act.put, nz1, nz2, nz3]
   refine tkH (i := 16) (oi := ⟨some 24, .load 9 (.tmp 23), 9, "entry.go:93", #[⟨15, .data⟩], none⟩) (v := ?_) rfl ?_ ?_;rotate_left
   ·intro U hSw; obtain ⟨⟨s0, s1, s2, s3, s4, s5⟩, _, _⟩ := hSw; (go_simp <;> with_reducible rfl)
   try simp only [Act.put, nz1, nz2, nz3]
   have k0 : Nw W3 W3.drew := (Fr.refl _ _).drew;refine wpAnyH_ready (rs := [4, 19]) (by kernel_rfl) (by simp) ?_;refine AllReadyH.cons (o := ⟨some 12, .call ⟨.value (.func 88), #[.tmp 11], #[62]⟩, 9, "entry.go:94", #[⟨3, .data⟩], none⟩) rfl (fun K hK => ?_) (AllReadyH.cons (o := ⟨some 7, .alloc 32, 0, "entry.go:93", #[], none⟩) rfl (fun K hK => ?_) AllReadyH.nil)
   ·(
    go_simp;go_at_call 88; with_reducible refine (HC1.out _ k0).mono ?_; rintro e k1w ⟨rfl, k1⟩
    (try go_wp2_with fail)
    have k1N := (k0).trans k1;refine hK.out _ _ (KEY.out _ k1N) (fun _ => ?_);clear hK K;try simp only [Act.put, nz1, nz2, nz3]
    refine wpAnyH_ready (rs := [5, 19]) (by kernel_rfl) (by simp) ?_;refine AllReadyH.cons (o := ⟨some 13, .call ⟨.value (.func 87), #[.tmp 10, .tmp 12], #[83, 9]⟩, 9, "entry.go:94", #[⟨2, .data⟩, ⟨4, .data⟩, ⟨4, .chain⟩], none⟩) rfl (fun K hK => ?_) (AllReadyH.cons (o := ⟨some 7, .alloc 32, 0, "entry.go:93", #[], none⟩) rfl (fun K hK => ?_) AllReadyH.nil)
    ·(
     go_simp;go_at_call 87; with_reducible refine (HC2.out _ k1N).mono ?_; rintro e k2w ⟨rfl, k2⟩
     (try go_wp2_with fail)
     have k2N := (k1N).trans k2;refine hK.out _ _ (KEY.out _ k2N) (fun _ => ?_);clear hK K;try simp only [Act.put, nz1, nz2, nz3]
     refine wpAnyH_ready (rs := [6, 19]) (by kernel_rfl) (by simp) ?_;refine AllReadyH.cons (o := ⟨some 14, .call ⟨.value (.func 86), #[.tmp 8, .const (Value.string { data := #[112, 97, 116, 104] }), .tmp 13], #[121, 9, 9]⟩, 9, "entry.go:94", #[⟨0, .data⟩, ⟨5, .data⟩, ⟨5, .chain⟩], none⟩) rfl (fun K hK => ?_) (AllReadyH.cons (o := ⟨some 7, .alloc 32, 0, "entry.go:93", #[], none⟩) rfl (fun K hK => ?_) AllReadyH.nil)
     ·(
      go_simp;go_at_call 86; with_reducible refine (HC3.out _ k2N).mono ?_; rintro e k3w ⟨rfl, k3⟩
      (try go_wp2_with fail)
      have k3N := (k2N).trans k3;refine hK.out _ _ (KEY.out _ k3N) (fun _ => ?_);clear hK K;try simp only [Act.put, nz1, nz2, nz3]
      refine wpAnyH_ready (rs := [9, 19]) (by kernel_rfl) (by simp) ?_;refine AllReadyH.cons (o := ⟨some 17, .call ⟨.value (.func 89), #[.tmp 15, .tmp 16], #[121, 62]⟩, 30, "entry.go:95", #[⟨7, .data⟩, ⟨8, .data⟩, ⟨6, .chain⟩], none⟩) rfl (fun K hK => ?_) (AllReadyH.cons (o := ⟨some 7, .alloc 32, 0, "entry.go:93", #[], none⟩) rfl (fun K hK => ?_) AllReadyH.nil)
      ·(
       go_simp;go_at_call 89; with_reducible refine (HC4.out _ k3N).mono ?_; rintro e k4w ⟨rfl, k4⟩
       (try go_wp2_with fail)
       have k4N := (k3N).trans k4;refine hK.out _ _ (KEY.out _ k4N) (fun _ => ?_);clear hK K;try simp only [Act.put, nz1, nz2, nz3]
       refine wpAnyH_ready (rs := [13, 19]) (by kernel_rfl) (by simp) ?_;refine AllReadyH.cons (o := ⟨some 21, .call ⟨.value (.func 86), #[.tmp 18, .const (Value.string { data := #[117, 110, 97, 109, 101] }), .tmp 20], #[121, 9, 9]⟩, 9, "entry.go:96", #[⟨10, .data⟩, ⟨12, .data⟩, ⟨9, .chain⟩], none⟩) rfl (fun K hK => ?_) (AllReadyH.cons (o := ⟨some 7, .alloc 32, 0, "entry.go:93", #[], none⟩) rfl (fun K hK => ?_) AllReadyH.nil)
       ·(
        go_simp;go_at_call 86; with_reducible refine (HC5.out _ k4N).mono ?_; rintro e k5w ⟨rfl, k5⟩
        (try go_wp2_with fail)
        have k5N := (k4N).trans k5;refine hK.out _ _ (KEY.out _ k5N) (fun _ => ?_);clear hK K;try simp only [Act.put, nz1, nz2, nz3]
        refine wpAnyH_ready (rs := [17, 19]) (by kernel_rfl) (by simp) ?_;refine AllReadyH.cons (o := ⟨some 25, .call ⟨.value (.func 86), #[.tmp 22, .const (Value.string { data := #[103, 110, 97, 109, 101] }), .tmp 24], #[121, 9, 9]⟩, 9, "entry.go:97", #[⟨14, .data⟩, ⟨16, .data⟩, ⟨13, .chain⟩], none⟩) rfl (fun K hK => ?_) (AllReadyH.cons (o := ⟨some 7, .alloc 32, 0, "entry.go:93", #[], none⟩) rfl (fun K hK => ?_) AllReadyH.nil)
        ·(
         go_simp;go_at_call 86; with_reducible refine (HC6.out _ k5N).mono ?_; rintro e k6w ⟨rfl, k6⟩
         (try go_wp2_with fail)
         have k6N := (k5N).trans k6;refine hK.out _ _ (KEY.out _ k6N) (fun _ => ?_);clear hK K;try simp only [Act.put, nz1, nz2, nz3]
         refine tkH (i := 18) (oi := ⟨some 26, .build 32 #[(0, .tmp 14), (2, .tmp 17), (3, .tmp 21), (4, .tmp 25)], 32, "entry.go:93", #[⟨6, .data⟩, ⟨9, .data⟩, ⟨13, .data⟩, ⟨17, .data⟩], none⟩) (v := ?_) rfl ?_ ?_;rotate_left
         ·intro U hSw; obtain ⟨⟨s0, s1, s2, s3, s4, s5⟩, _, _⟩ := hSw; (go_simp <;> with_reducible rfl)
         try simp only [Act.put, nz1, nz2, nz3]
         refine wpAnyH_ready (rs := [19]) (by kernel_rfl) (by simp) ?_;refine AllReadyH.cons (o := ⟨some 7, .alloc 32, 0, "entry.go:93", #[], none⟩) rfl (fun K hK => ?_) AllReadyH.nil;rw [if_pos (by rfl)];go_simp;have k7N := (k6N).trans ((Fr.refl (fun _ => False) _).alloc (.cells zeE 32));have k7R := alR k7N;have HGE := Fr.size k6N;refine hK.out _ _ (KEY.out _ k7N) (fun _ => ?_);clear hK K;try simp only [Act.put, nz1, nz2, nz3]
         refine wpAnyH_ready (rs := [20]) (by kernel_rfl) (by simp) ?_;refine AllReadyH.cons (o := ⟨none, .store 32 (.tmp 7) (.tmp 26), 0, "entry.go:93", #[⟨19, .data⟩, ⟨18, .data⟩, ⟨17, .chain⟩, ⟨0, .phase⟩, ⟨1, .phase⟩, ⟨2, .phase⟩, ⟨3, .phase⟩, ⟨4, .phase⟩, ⟨5, .phase⟩, ⟨6, .phase⟩, ⟨7, .phase⟩, ⟨8, .phase⟩, ⟨9, .phase⟩, ⟨10, .phase⟩, ⟨11, .phase⟩, ⟨12, .phase⟩, ⟨13, .phase⟩, ⟨14, .phase⟩, ⟨15, .phase⟩, ⟨16, .phase⟩, ⟨17, .phase⟩, ⟨18, .phase⟩, ⟨19, .phase⟩], none⟩) rfl (fun K hK => ?_) AllReadyH.nil;rw [if_pos (by rfl)]
         refine wp_store_row 32 _ _ rfl _ E1 (by first | rfl | simp [Act.eval]) (by first | exact HE1.out | rfl | simp [Act.eval]) 32 _ k7R HE1I.out HE1S.out HE1O.out ?_;obtain ⟨gE, wE⟩ := HFIN.out _ _ k7N k7R (by first | exact HGE);refine hK.out _ _ (KEY.out _ wE) (fun _ => ?_);clear hK K;refine wpAnyH_done (by kernel_rfl) ?_ _
         go_wp2_with fail
         go_meet
         exact ⟨_, _, rfl, HE1.out, rfl, gE, wE, HGE⟩
         )
        ·(
         rw [if_pos (by rfl)];go_simp;have k8N := (k5N).trans ((Fr.refl (fun _ => False) _).alloc (.cells zeE 32));have k8R := alR k8N;have HGE := Fr.size k5N;refine hK.out _ _ (KEY.out _ k8N) (fun _ => ?_);clear hK K;try simp only [Act.put, nz1, nz2, nz3]
         refine wpAnyH_ready (rs := [17]) (by kernel_rfl) (by simp) ?_;refine AllReadyH.cons (o := ⟨some 25, .call ⟨.value (.func 86), #[.tmp 22, .const (Value.string { data := #[103, 110, 97, 109, 101] }), .tmp 24], #[121, 9, 9]⟩, 9, "entry.go:97", #[⟨14, .data⟩, ⟨16, .data⟩, ⟨13, .chain⟩], none⟩) rfl (fun K hK => ?_) AllReadyH.nil;go_simp;go_at_call 86; with_reducible refine (HC6.out _ k8N).mono ?_; rintro e k9w ⟨rfl, k9⟩
         (try go_wp2_with fail)
         have k9N := (k8N).trans k9;have k9R := Nw.heap k9 k8R;refine hK.out _ _ (KEY.out _ k9N) (fun _ => ?_);clear hK K;try simp only [Act.put, nz1, nz2, nz3]
         refine tkH (i := 18) (oi := ⟨some 26, .build 32 #[(0, .tmp 14), (2, .tmp 17), (3, .tmp 21), (4, .tmp 25)], 32, "entry.go:93", #[⟨6, .data⟩, ⟨9, .data⟩, ⟨13, .data⟩, ⟨17, .data⟩], none⟩) (v := ?_) rfl ?_ ?_;rotate_left
         ·intro U hSw; obtain ⟨⟨s0, s1, s2, s3, s4, s5⟩, _, _⟩ := hSw; (go_simp <;> with_reducible rfl)
         try simp only [Act.put, nz1, nz2, nz3]
         refine wpAnyH_ready (rs := [20]) (by kernel_rfl) (by simp) ?_;refine AllReadyH.cons (o := ⟨none, .store 32 (.tmp 7) (.tmp 26), 0, "entry.go:93", #[⟨19, .data⟩, ⟨18, .data⟩, ⟨17, .chain⟩, ⟨0, .phase⟩, ⟨1, .phase⟩, ⟨2, .phase⟩, ⟨3, .phase⟩, ⟨4, .phase⟩, ⟨5, .phase⟩, ⟨6, .phase⟩, ⟨7, .phase⟩, ⟨8, .phase⟩, ⟨9, .phase⟩, ⟨10, .phase⟩, ⟨11, .phase⟩, ⟨12, .phase⟩, ⟨13, .phase⟩, ⟨14, .phase⟩, ⟨15, .phase⟩, ⟨16, .phase⟩, ⟨17, .phase⟩, ⟨18, .phase⟩, ⟨19, .phase⟩], none⟩) rfl (fun K hK => ?_) AllReadyH.nil;rw [if_pos (by rfl)]
         refine wp_store_row 32 _ _ rfl _ E1 (by first | rfl | simp [Act.eval]) (by first | exact HE1.out | rfl | simp [Act.eval]) 32 _ k9R HE1I.out HE1S.out HE1O.out ?_;obtain ⟨gE, wE⟩ := HFIN.out _ _ k9N k9R (by first | exact HGE);refine hK.out _ _ (KEY.out _ wE) (fun _ => ?_);clear hK K;refine wpAnyH_done (by kernel_rfl) ?_ _
         go_wp2_with fail
         go_meet
         exact ⟨_, _, rfl, HE1.out, rfl, gE, wE, HGE⟩
         )
        )
       ·(
        rw [if_pos (by rfl)];go_simp;have k10N := (k4N).trans ((Fr.refl (fun _ => False) _).alloc (.cells zeE 32));have k10R := alR k10N;have HGE := Fr.size k4N;refine hK.out _ _ (KEY.out _ k10N) (fun _ => ?_);clear hK K;try simp only [Act.put, nz1, nz2, nz3]
        refine wpAnyH_ready (rs := [13]) (by kernel_rfl) (by simp) ?_;refine AllReadyH.cons (o := ⟨some 21, .call ⟨.value (.func 86), #[.tmp 18, .const (Value.string { data := #[117, 110, 97, 109, 101] }), .tmp 20], #[121, 9, 9]⟩, 9, "entry.go:96", #[⟨10, .data⟩, ⟨12, .data⟩, ⟨9, .chain⟩], none⟩) rfl (fun K hK => ?_) AllReadyH.nil;go_simp;go_at_call 86; with_reducible refine (HC5.out _ k10N).mono ?_; rintro e k11w ⟨rfl, k11⟩
        (try go_wp2_with fail)
        have k11N := (k10N).trans k11;have k11R := Nw.heap k11 k10R;refine hK.out _ _ (KEY.out _ k11N) (fun _ => ?_);clear hK K;try simp only [Act.put, nz1, nz2, nz3]
        refine wpAnyH_ready (rs := [17]) (by kernel_rfl) (by simp) ?_;refine AllReadyH.cons (o := ⟨some 25, .call ⟨.value (.func 86), #[.tmp 22, .const (Value.string { data := #[103, 110, 97, 109, 101] }), .tmp 24], #[121, 9, 9]⟩, 9, "entry.go:97", #[⟨14, .data⟩, ⟨16, .data⟩, ⟨13, .chain⟩], none⟩) rfl (fun K hK => ?_) AllReadyH.nil;go_simp;go_at_call 86; with_reducible refine (HC6.out _ k11N).mono ?_; rintro e k12w ⟨rfl, k12⟩
        (try go_wp2_with fail)
        have k12N := (k11N).trans k12;have k12R := Nw.heap k12 k11R;refine hK.out _ _ (KEY.out _ k12N) (fun _ => ?_);clear hK K;try simp only [Act.put, nz1, nz2, nz3]
        refine tkH (i := 18) (oi := ⟨some 26, .build 32 #[(0, .tmp 14), (2, .tmp 17), (3, .tmp 21), (4, .tmp 25)], 32, "entry.go:93", #[⟨6, .data⟩, ⟨9, .data⟩, ⟨13, .data⟩, ⟨17, .data⟩], none⟩) (v := ?_) rfl ?_ ?_;rotate_left
        ·intro U hSw; obtain ⟨⟨s0, s1, s2, s3, s4, s5⟩, _, _⟩ := hSw; (go_simp <;> with_reducible rfl)
        try simp only [Act.put, nz1, nz2, nz3]
        refine wpAnyH_ready (rs := [20]) (by kernel_rfl) (by simp) ?_;refine AllReadyH.cons (o := ⟨none, .store 32 (.tmp 7) (.tmp 26), 0, "entry.go:93", #[⟨19, .data⟩, ⟨18, .data⟩, ⟨17, .chain⟩, ⟨0, .phase⟩, ⟨1, .phase⟩, ⟨2, .phase⟩, ⟨3, .phase⟩, ⟨4, .phase⟩, ⟨5, .phase⟩, ⟨6, .phase⟩, ⟨7, .phase⟩, ⟨8, .phase⟩, ⟨9, .phase⟩, ⟨10, .phase⟩, ⟨11, .phase⟩, ⟨12, .phase⟩, ⟨13, .phase⟩, ⟨14, .phase⟩, ⟨15, .phase⟩, ⟨16, .phase⟩, ⟨17, .phase⟩, ⟨18, .phase⟩, ⟨19, .phase⟩], none⟩) rfl (fun K hK => ?_) AllReadyH.nil;rw [if_pos (by rfl)]
        refine wp_store_row 32 _ _ rfl _ E1 (by first | rfl | simp [Act.eval]) (by first | exact HE1.out | rfl | simp [Act.eval]) 32 _ k12R HE1I.out HE1S.out HE1O.out ?_;obtain ⟨gE, wE⟩ := HFIN.out _ _ k12N k12R (by first | exact HGE);refine hK.out _ _ (KEY.out _ wE) (fun _ => ?_);clear hK K;refine wpAnyH_done (by kernel_rfl) ?_ _
        go_wp2_with fail
        go_meet
        exact ⟨_, _, rfl, HE1.out, rfl, gE, wE, HGE⟩
        )
       )
      ·(
       rw [if_pos (by rfl)];go_simp;have k13N := (k3N).trans ((Fr.refl (fun _ => False) _).alloc (.cells zeE 32));have k13R := alR k13N;have HGE := Fr.size k3N;refine hK.out _ _ (KEY.out _ k13N) (fun _ => ?_);clear hK K;try simp only [Act.put, nz1, nz2, nz3]
       refine wpAnyH_ready (rs := [9]) (by kernel_rfl) (by simp) ?_;refine AllReadyH.cons (o := ⟨some 17, .call ⟨.value (.func 89), #[.tmp 15, .tmp 16], #[121, 62]⟩, 30, "entry.go:95", #[⟨7, .data⟩, ⟨8, .data⟩, ⟨6, .chain⟩], none⟩) rfl (fun K hK => ?_) AllReadyH.nil;go_simp;go_at_call 89; with_reducible refine (HC4.out _ k13N).mono ?_; rintro e k14w ⟨rfl, k14⟩
       (try go_wp2_with fail)
       have k14N := (k13N).trans k14;have k14R := Nw.heap k14 k13R;refine hK.out _ _ (KEY.out _ k14N) (fun _ => ?_);clear hK K;try simp only [Act.put, nz1, nz2, nz3]
       refine wpAnyH_ready (rs := [13]) (by kernel_rfl) (by simp) ?_;refine AllReadyH.cons (o := ⟨some 21, .call ⟨.value (.func 86), #[.tmp 18, .const (Value.string { data := #[117, 110, 97, 109, 101] }), .tmp 20], #[121, 9, 9]⟩, 9, "entry.go:96", #[⟨10, .data⟩, ⟨12, .data⟩, ⟨9, .chain⟩], none⟩) rfl (fun K hK => ?_) AllReadyH.nil;go_simp;go_at_call 86; with_reducible refine (HC5.out _ k14N).mono ?_; rintro e k15w ⟨rfl, k15⟩
       (try go_wp2_with fail)
       have k15N := (k14N).trans k15;have k15R := Nw.heap k15 k14R;refine hK.out _ _ (KEY.out _ k15N) (fun _ => ?_);clear hK K;try simp only [Act.put, nz1, nz2, nz3]
       refine wpAnyH_ready (rs := [17]) (by kernel_rfl) (by simp) ?_;refine AllReadyH.cons (o := ⟨some 25, .call ⟨.value (.func 86), #[.tmp 22, .const (Value.string { data := #[103, 110, 97, 109, 101] }), .tmp 24], #[121, 9, 9]⟩, 9, "entry.go:97", #[⟨14, .data⟩, ⟨16, .data⟩, ⟨13, .chain⟩], none⟩) rfl (fun K hK => ?_) AllReadyH.nil;go_simp;go_at_call 86; with_reducible refine (HC6.out _ k15N).mono ?_; rintro e k16w ⟨rfl, k16⟩
       (try go_wp2_with fail)
       have k16N := (k15N).trans k16;have k16R := Nw.heap k16 k15R;refine hK.out _ _ (KEY.out _ k16N) (fun _ => ?_);clear hK K;try simp only [Act.put, nz1, nz2, nz3]
       refine tkH (i := 18) (oi := ⟨some 26, .build 32 #[(0, .tmp 14), (2, .tmp 17), (3, .tmp 21), (4, .tmp 25)], 32, "entry.go:93", #[⟨6, .data⟩, ⟨9, .data⟩, ⟨13, .data⟩, ⟨17, .data⟩], none⟩) (v := ?_) rfl ?_ ?_;rotate_left
       ·intro U hSw; obtain ⟨⟨s0, s1, s2, s3, s4, s5⟩, _, _⟩ := hSw; (go_simp <;> with_reducible rfl)
       try simp only [Act.put, nz1, nz2, nz3]
       refine wpAnyH_ready (rs := [20]) (by kernel_rfl) (by simp) ?_;refine AllReadyH.cons (o := ⟨none, .store 32 (.tmp 7) (.tmp 26), 0, "entry.go:93", #[⟨19, .data⟩, ⟨18, .data⟩, ⟨17, .chain⟩, ⟨0, .phase⟩, ⟨1, .phase⟩, ⟨2, .phase⟩, ⟨3, .phase⟩, ⟨4, .phase⟩, ⟨5, .phase⟩, ⟨6, .phase⟩, ⟨7, .phase⟩, ⟨8, .phase⟩, ⟨9, .phase⟩, ⟨10, .phase⟩, ⟨11, .phase⟩, ⟨12, .phase⟩, ⟨13, .phase⟩, ⟨14, .phase⟩, ⟨15, .phase⟩, ⟨16, .phase⟩, ⟨17, .phase⟩, ⟨18, .phase⟩, ⟨19, .phase⟩], none⟩) rfl (fun K hK => ?_) AllReadyH.nil;rw [if_pos (by rfl)]
       refine wp_store_row 32 _ _ rfl _ E1 (by first | rfl | simp [Act.eval]) (by first | exact HE1.out | rfl | simp [Act.eval]) 32 _ k16R HE1I.out HE1S.out HE1O.out ?_;obtain ⟨gE, wE⟩ := HFIN.out _ _ k16N k16R (by first | exact HGE);refine hK.out _ _ (KEY.out _ wE) (fun _ => ?_);clear hK K;refine wpAnyH_done (by kernel_rfl) ?_ _
       go_wp2_with fail
       go_meet
       exact ⟨_, _, rfl, HE1.out, rfl, gE, wE, HGE⟩
       )
      )
     ·(
      rw [if_pos (by rfl)];go_simp;have k17N := (k2N).trans ((Fr.refl (fun _ => False) _).alloc (.cells zeE 32));have k17R := alR k17N;have HGE := Fr.size k2N;refine hK.out _ _ (KEY.out _ k17N) (fun _ => ?_);clear hK K;try simp only [Act.put, nz1, nz2, nz3]
      refine wpAnyH_ready (rs := [6]) (by kernel_rfl) (by simp) ?_;refine AllReadyH.cons (o := ⟨some 14, .call ⟨.value (.func 86), #[.tmp 8, .const (Value.string { data := #[112, 97, 116, 104] }), .tmp 13], #[121, 9, 9]⟩, 9, "entry.go:94", #[⟨0, .data⟩, ⟨5, .data⟩, ⟨5, .chain⟩], none⟩) rfl (fun K hK => ?_) AllReadyH.nil;go_simp;go_at_call 86; with_reducible refine (HC3.out _ k17N).mono ?_; rintro e k18w ⟨rfl, k18⟩
      (try go_wp2_with fail)
      have k18N := (k17N).trans k18;have k18R := Nw.heap k18 k17R;refine hK.out _ _ (KEY.out _ k18N) (fun _ => ?_);clear hK K;try simp only [Act.put, nz1, nz2, nz3]
      refine wpAnyH_ready (rs := [9]) (by kernel_rfl) (by simp) ?_;refine AllReadyH.cons (o := ⟨some 17, .call ⟨.value (.func 89), #[.tmp 15, .tmp 16], #[121, 62]⟩, 30, "entry.go:95", #[⟨7, .data⟩, ⟨8, .data⟩, ⟨6, .chain⟩], none⟩) rfl (fun K hK => ?_) AllReadyH.nil;go_simp;go_at_call 89; with_reducible refine (HC4.out _ k18N).mono ?_; rintro e k19w ⟨rfl, k19⟩
      (try go_wp2_with fail)
      have k19N := (k18N).trans k19;have k19R := Nw.heap k19 k18R;refine hK.out _ _ (KEY.out _ k19N) (fun _ => ?_);clear hK K;try simp only [Act.put, nz1, nz2, nz3]
      refine wpAnyH_ready (rs := [13]) (by kernel_rfl) (by simp) ?_;refine AllReadyH.cons (o := ⟨some 21, .call ⟨.value (.func 86), #[.tmp 18, .const (Value.string { data := #[117, 110, 97, 109, 101] }), .tmp 20], #[121, 9, 9]⟩, 9, "entry.go:96", #[⟨10, .data⟩, ⟨12, .data⟩, ⟨9, .chain⟩], none⟩) rfl (fun K hK => ?_) AllReadyH.nil;go_simp;go_at_call 86; with_reducible refine (HC5.out _ k19N).mono ?_; rintro e k20w ⟨rfl, k20⟩
      (try go_wp2_with fail)
      have k20N := (k19N).trans k20;have k20R := Nw.heap k20 k19R;refine hK.out _ _ (KEY.out _ k20N) (fun _ => ?_);clear hK K;try simp only [Act.put, nz1, nz2, nz3]
      refine wpAnyH_ready (rs := [17]) (by kernel_rfl) (by simp) ?_;refine AllReadyH.cons (o := ⟨some 25, .call ⟨.value (.func 86), #[.tmp 22, .const (Value.string { data := #[103, 110, 97, 109, 101] }), .tmp 24], #[121, 9, 9]⟩, 9, "entry.go:97", #[⟨14, .data⟩, ⟨16, .data⟩, ⟨13, .chain⟩], none⟩) rfl (fun K hK => ?_) AllReadyH.nil;go_simp;go_at_call 86; with_reducible refine (HC6.out _ k20N).mono ?_; rintro e k21w ⟨rfl, k21⟩
      (try go_wp2_with fail)
      have k21N := (k20N).trans k21;have k21R := Nw.heap k21 k20R;refine hK.out _ _ (KEY.out _ k21N) (fun _ => ?_);clear hK K;try simp only [Act.put, nz1, nz2, nz3]
      refine tkH (i := 18) (oi := ⟨some 26, .build 32 #[(0, .tmp 14), (2, .tmp 17), (3, .tmp 21), (4, .tmp 25)], 32, "entry.go:93", #[⟨6, .data⟩, ⟨9, .data⟩, ⟨13, .data⟩, ⟨17, .data⟩], none⟩) (v := ?_) rfl ?_ ?_;rotate_left
      ·intro U hSw; obtain ⟨⟨s0, s1, s2, s3, s4, s5⟩, _, _⟩ := hSw; (go_simp <;> with_reducible rfl)
      try simp only [Act.put, nz1, nz2, nz3]
      refine wpAnyH_ready (rs := [20]) (by kernel_rfl) (by simp) ?_;refine AllReadyH.cons (o := ⟨none, .store 32 (.tmp 7) (.tmp 26), 0, "entry.go:93", #[⟨19, .data⟩, ⟨18, .data⟩, ⟨17, .chain⟩, ⟨0, .phase⟩, ⟨1, .phase⟩, ⟨2, .phase⟩, ⟨3, .phase⟩, ⟨4, .phase⟩, ⟨5, .phase⟩, ⟨6, .phase⟩, ⟨7, .phase⟩, ⟨8, .phase⟩, ⟨9, .phase⟩, ⟨10, .phase⟩, ⟨11, .phase⟩, ⟨12, .phase⟩, ⟨13, .phase⟩, ⟨14, .phase⟩, ⟨15, .phase⟩, ⟨16, .phase⟩, ⟨17, .phase⟩, ⟨18, .phase⟩, ⟨19, .phase⟩], none⟩) rfl (fun K hK => ?_) AllReadyH.nil;rw [if_pos (by rfl)]
      refine wp_store_row 32 _ _ rfl _ E1 (by first | rfl | simp [Act.eval]) (by first | exact HE1.out | rfl | simp [Act.eval]) 32 _ k21R HE1I.out HE1S.out HE1O.out ?_;obtain ⟨gE, wE⟩ := HFIN.out _ _ k21N k21R (by first | exact HGE);refine hK.out _ _ (KEY.out _ wE) (fun _ => ?_);clear hK K;refine wpAnyH_done (by kernel_rfl) ?_ _
      go_wp2_with fail
      go_meet
      exact ⟨_, _, rfl, HE1.out, rfl, gE, wE, HGE⟩
      )
     )
    ·(
     rw [if_pos (by rfl)];go_simp;have k22N := (k1N).trans ((Fr.refl (fun _ => False) _).alloc (.cells zeE 32));have k22R := alR k22N;have HGE := Fr.size k1N;refine hK.out _ _ (KEY.out _ k22N) (fun _ => ?_);clear hK K;try simp only [Act.put, nz1, nz2, nz3]
     refine wpAnyH_ready (rs := [5]) (by kernel_rfl) (by simp) ?_;refine AllReadyH.cons (o := ⟨some 13, .call ⟨.value (.func 87), #[.tmp 10, .tmp 12], #[83, 9]⟩, 9, "entry.go:94", #[⟨2, .data⟩, ⟨4, .data⟩, ⟨4, .chain⟩], none⟩) rfl (fun K hK => ?_) AllReadyH.nil;go_simp;go_at_call 87; with_reducible refine (HC2.out _ k22N).mono ?_; rintro e k23w ⟨rfl, k23⟩
     (try go_wp2_with fail)
     have k23N := (k22N).trans k23;have k23R := Nw.heap k23 k22R;refine hK.out _ _ (KEY.out _ k23N) (fun _ => ?_);clear hK K;try simp only [Act.put, nz1, nz2, nz3]
     refine wpAnyH_ready (rs := [6]) (by kernel_rfl) (by simp) ?_;refine AllReadyH.cons (o := ⟨some 14, .call ⟨.value (.func 86), #[.tmp 8, .const (Value.string { data := #[112, 97, 116, 104] }), .tmp 13], #[121, 9, 9]⟩, 9, "entry.go:94", #[⟨0, .data⟩, ⟨5, .data⟩, ⟨5, .chain⟩], none⟩) rfl (fun K hK => ?_) AllReadyH.nil;go_simp;go_at_call 86; with_reducible refine (HC3.out _ k23N).mono ?_; rintro e k24w ⟨rfl, k24⟩
     (try go_wp2_with fail)
     have k24N := (k23N).trans k24;have k24R := Nw.heap k24 k23R;refine hK.out _ _ (KEY.out _ k24N) (fun _ => ?_);clear hK K;try simp only [Act.put, nz1, nz2, nz3]
     refine wpAnyH_ready (rs := [9]) (by kernel_rfl) (by simp) ?_;refine AllReadyH.cons (o := ⟨some 17, .call ⟨.value (.func 89), #[.tmp 15, .tmp 16], #[121, 62]⟩, 30, "entry.go:95", #[⟨7, .data⟩, ⟨8, .data⟩, ⟨6, .chain⟩], none⟩) rfl (fun K hK => ?_) AllReadyH.nil;go_simp;go_at_call 89; with_reducible refine (HC4.out _ k24N).mono ?_; rintro e k25w ⟨rfl, k25⟩
     (try go_wp2_with fail)
     have k25N := (k24N).trans k25;have k25R := Nw.heap k25 k24R;refine hK.out _ _ (KEY.out _ k25N) (fun _ => ?_);clear hK K;try simp only [Act.put, nz1, nz2, nz3]
     refine wpAnyH_ready (rs := [13]) (by kernel_rfl) (by simp) ?_;refine AllReadyH.cons (o := ⟨some 21, .call ⟨.value (.func 86), #[.tmp 18, .const (Value.string { data := #[117, 110, 97, 109, 101] }), .tmp 20], #[121, 9, 9]⟩, 9, "entry.go:96", #[⟨10, .data⟩, ⟨12, .data⟩, ⟨9, .chain⟩], none⟩) rfl (fun K hK => ?_) AllReadyH.nil;go_simp;go_at_call 86; with_reducible refine (HC5.out _ k25N).mono ?_; rintro e k26w ⟨rfl, k26⟩
     (try go_wp2_with fail)
     have k26N := (k25N).trans k26;have k26R := Nw.heap k26 k25R;refine hK.out _ _ (KEY.out _ k26N) (fun _ => ?_);clear hK K;try simp only [Act.put, nz1, nz2, nz3]
     refine wpAnyH_ready (rs := [17]) (by kernel_rfl) (by simp) ?_;refine AllReadyH.cons (o := ⟨some 25, .call ⟨.value (.func 86), #[.tmp 22, .const (Value.string { data := #[103, 110, 97, 109, 101] }), .tmp 24], #[121, 9, 9]⟩, 9, "entry.go:97", #[⟨14, .data⟩, ⟨16, .data⟩, ⟨13, .chain⟩], none⟩) rfl (fun K hK => ?_) AllReadyH.nil;go_simp;go_at_call 86; with_reducible refine (HC6.out _ k26N).mono ?_; rintro e k27w ⟨rfl, k27⟩
     (try go_wp2_with fail)
     have k27N := (k26N).trans k27;have k27R := Nw.heap k27 k26R;refine hK.out _ _ (KEY.out _ k27N) (fun _ => ?_);clear hK K;try simp only [Act.put, nz1, nz2, nz3]
     refine tkH (i := 18) (oi := ⟨some 26, .build 32 #[(0, .tmp 14), (2, .tmp 17), (3, .tmp 21), (4, .tmp 25)], 32, "entry.go:93", #[⟨6, .data⟩, ⟨9, .data⟩, ⟨13, .data⟩, ⟨17, .data⟩], none⟩) (v := ?_) rfl ?_ ?_;rotate_left
     ·intro U hSw; obtain ⟨⟨s0, s1, s2, s3, s4, s5⟩, _, _⟩ := hSw; (go_simp <;> with_reducible rfl)
     try simp only [Act.put, nz1, nz2, nz3]
     refine wpAnyH_ready (rs := [20]) (by kernel_rfl) (by simp) ?_;refine AllReadyH.cons (o := ⟨none, .store 32 (.tmp 7) (.tmp 26), 0, "entry.go:93", #[⟨19, .data⟩, ⟨18, .data⟩, ⟨17, .chain⟩, ⟨0, .phase⟩, ⟨1, .phase⟩, ⟨2, .phase⟩, ⟨3, .phase⟩, ⟨4, .phase⟩, ⟨5, .phase⟩, ⟨6, .phase⟩, ⟨7, .phase⟩, ⟨8, .phase⟩, ⟨9, .phase⟩, ⟨10, .phase⟩, ⟨11, .phase⟩, ⟨12, .phase⟩, ⟨13, .phase⟩, ⟨14, .phase⟩, ⟨15, .phase⟩, ⟨16, .phase⟩, ⟨17, .phase⟩, ⟨18, .phase⟩, ⟨19, .phase⟩], none⟩) rfl (fun K hK => ?_) AllReadyH.nil;rw [if_pos (by rfl)]
     refine wp_store_row 32 _ _ rfl _ E1 (by first | rfl | simp [Act.eval]) (by first | exact HE1.out | rfl | simp [Act.eval]) 32 _ k27R HE1I.out HE1S.out HE1O.out ?_;obtain ⟨gE, wE⟩ := HFIN.out _ _ k27N k27R (by first | exact HGE);refine hK.out _ _ (KEY.out _ wE) (fun _ => ?_);clear hK K;refine wpAnyH_done (by kernel_rfl) ?_ _
     go_wp2_with fail
     go_meet
     exact ⟨_, _, rfl, HE1.out, rfl, gE, wE, HGE⟩
     )
    )
   ·(
    rw [if_pos (by rfl)];go_simp;have k28N : Nw W3 (W3.alloc (.cells zeE 32)).drew := ((Fr.refl (fun _ => False) W3).alloc (.cells zeE 32)).drew;have k28R : ((W3.alloc (.cells zeE 32)).drew).heap[W3.heap.size]? = some (.cells zeE 32) := newHeap W3 _;have HGE : W3.heap.size ≤ W3.heap.size := Nat.le_refl _;refine hK.out _ _ (KEY.out _ k28N) (fun _ => ?_);clear hK K;try simp only [Act.put, nz1, nz2, nz3]
    refine wpAnyH_ready (rs := [4]) (by kernel_rfl) (by simp) ?_;refine AllReadyH.cons (o := ⟨some 12, .call ⟨.value (.func 88), #[.tmp 11], #[62]⟩, 9, "entry.go:94", #[⟨3, .data⟩], none⟩) rfl (fun K hK => ?_) AllReadyH.nil;go_simp;go_at_call 88; with_reducible refine (HC1.out _ k28N).mono ?_; rintro e k29w ⟨rfl, k29⟩
    (try go_wp2_with fail)
    have k29N := (k28N).trans k29;have k29R := Nw.heap k29 k28R;refine hK.out _ _ (KEY.out _ k29N) (fun _ => ?_);clear hK K;try simp only [Act.put, nz1, nz2, nz3]
    refine wpAnyH_ready (rs := [5]) (by kernel_rfl) (by simp) ?_;refine AllReadyH.cons (o := ⟨some 13, .call ⟨.value (.func 87), #[.tmp 10, .tmp 12], #[83, 9]⟩, 9, "entry.go:94", #[⟨2, .data⟩, ⟨4, .data⟩, ⟨4, .chain⟩], none⟩) rfl (fun K hK => ?_) AllReadyH.nil;go_simp;go_at_call 87; with_reducible refine (HC2.out _ k29N).mono ?_; rintro e k30w ⟨rfl, k30⟩
    (try go_wp2_with fail)
    have k30N := (k29N).trans k30;have k30R := Nw.heap k30 k29R;refine hK.out _ _ (KEY.out _ k30N) (fun _ => ?_);clear hK K;try simp only [Act.put, nz1, nz2, nz3]
    refine wpAnyH_ready (rs := [6]) (by kernel_rfl) (by simp) ?_;refine AllReadyH.cons (o := ⟨some 14, .call ⟨.value (.func 86), #[.tmp 8, .const (Value.string { data := #[112, 97, 116, 104] }), .tmp 13], #[121, 9, 9]⟩, 9, "entry.go:94", #[⟨0, .data⟩, ⟨5, .data⟩, ⟨5, .chain⟩], none⟩) rfl (fun K hK => ?_) AllReadyH.nil;go_simp;go_at_call 86; with_reducible refine (HC3.out _ k30N).mono ?_; rintro e k31w ⟨rfl, k31⟩
    (try go_wp2_with fail)
    have k31N := (k30N).trans k31;have k31R := Nw.heap k31 k30R;refine hK.out _ _ (KEY.out _ k31N) (fun _ => ?_);clear hK K;try simp only [Act.put, nz1, nz2, nz3]
    refine wpAnyH_ready (rs := [9]) (by kernel_rfl) (by simp) ?_;refine AllReadyH.cons (o := ⟨some 17, .call ⟨.value (.func 89), #[.tmp 15, .tmp 16], #[121, 62]⟩, 30, "entry.go:95", #[⟨7, .data⟩, ⟨8, .data⟩, ⟨6, .chain⟩], none⟩) rfl (fun K hK => ?_) AllReadyH.nil;go_simp;go_at_call 89; with_reducible refine (HC4.out _ k31N).mono ?_; rintro e k32w ⟨rfl, k32⟩
    (try go_wp2_with fail)
    have k32N := (k31N).trans k32;have k32R := Nw.heap k32 k31R;refine hK.out _ _ (KEY.out _ k32N) (fun _ => ?_);clear hK K;try simp only [Act.put, nz1, nz2, nz3]
    refine wpAnyH_ready (rs := [13]) (by kernel_rfl) (by simp) ?_;refine AllReadyH.cons (o := ⟨some 21, .call ⟨.value (.func 86), #[.tmp 18, .const (Value.string { data := #[117, 110, 97, 109, 101] }), .tmp 20], #[121, 9, 9]⟩, 9, "entry.go:96", #[⟨10, .data⟩, ⟨12, .data⟩, ⟨9, .chain⟩], none⟩) rfl (fun K hK => ?_) AllReadyH.nil;go_simp;go_at_call 86; with_reducible refine (HC5.out _ k32N).mono ?_; rintro e k33w ⟨rfl, k33⟩
    (try go_wp2_with fail)
    have k33N := (k32N).trans k33;have k33R := Nw.heap k33 k32R;refine hK.out _ _ (KEY.out _ k33N) (fun _ => ?_);clear hK K;try simp only [Act.put, nz1, nz2, nz3]
    refine wpAnyH_ready (rs := [17]) (by kernel_rfl) (by simp) ?_;refine AllReadyH.cons (o := ⟨some 25, .call ⟨.value (.func 86), #[.tmp 22, .const (Value.string { data := #[103, 110, 97, 109, 101] }), .tmp 24], #[121, 9, 9]⟩, 9, "entry.go:97", #[⟨14, .data⟩, ⟨16, .data⟩, ⟨13, .chain⟩], none⟩) rfl (fun K hK => ?_) AllReadyH.nil;go_simp;go_at_call 86; with_reducible refine (HC6.out _ k33N).mono ?_; rintro e k34w ⟨rfl, k34⟩
    (try go_wp2_with fail)
    have k34N := (k33N).trans k34;have k34R := Nw.heap k34 k33R;refine hK.out _ _ (KEY.out _ k34N) (fun _ => ?_);clear hK K;try simp only [Act.put, nz1, nz2, nz3]
    refine tkH (i := 18) (oi := ⟨some 26, .build 32 #[(0, .tmp 14), (2, .tmp 17), (3, .tmp 21), (4, .tmp 25)], 32, "entry.go:93", #[⟨6, .data⟩, ⟨9, .data⟩, ⟨13, .data⟩, ⟨17, .data⟩], none⟩) (v := ?_) rfl ?_ ?_;rotate_left
    ·intro U hSw; obtain ⟨⟨s0, s1, s2, s3, s4, s5⟩, _, _⟩ := hSw; (go_simp <;> with_reducible rfl)
    try simp only [Act.put, nz1, nz2, nz3]
    refine wpAnyH_ready (rs := [20]) (by kernel_rfl) (by simp) ?_;refine AllReadyH.cons (o := ⟨none, .store 32 (.tmp 7) (.tmp 26), 0, "entry.go:93", #[⟨19, .data⟩, ⟨18, .data⟩, ⟨17, .chain⟩, ⟨0, .phase⟩, ⟨1, .phase⟩, ⟨2, .phase⟩, ⟨3, .phase⟩, ⟨4, .phase⟩, ⟨5, .phase⟩, ⟨6, .phase⟩, ⟨7, .phase⟩, ⟨8, .phase⟩, ⟨9, .phase⟩, ⟨10, .phase⟩, ⟨11, .phase⟩, ⟨12, .phase⟩, ⟨13, .phase⟩, ⟨14, .phase⟩, ⟨15, .phase⟩, ⟨16, .phase⟩, ⟨17, .phase⟩, ⟨18, .phase⟩, ⟨19, .phase⟩], none⟩) rfl (fun K hK => ?_) AllReadyH.nil;rw [if_pos (by rfl)]
    refine wp_store_row 32 _ _ rfl _ E1 (by first | rfl | simp [Act.eval]) (by first | exact HE1.out | rfl | simp [Act.eval]) 32 _ k34R HE1I.out HE1S.out HE1O.out ?_;obtain ⟨gE, wE⟩ := HFIN.out _ _ k34N k34R (by first | exact HGE);refine hK.out _ _ (KEY.out _ wE) (fun _ => ?_);clear hK K;refine wpAnyH_done (by kernel_rfl) ?_ _
    go_wp2_with fail
    go_meet
    exact ⟨_, _, rfl, HE1.out, rfl, gE, wE, HGE⟩
    )
  case rest =>
  obtain ⟨g, wx, rfl, rfl, hwx, HG⟩ := hcut;have hwx' := hwx.symm;subst hwx';clear hwx HC1 HC2 HC3 HC4 HC5 HC6 KEY HFIN HE1 HE1I HE1S HE1O;obtain ⟨rg, HNx, HGe⟩ := HG.out;rw [HE1'.out] at rg;have HRX := tHid (HR3.out wx HNx).2.2.2.2.2.2.1;have HHI : Hid ((Tryz.prog.info? 62).map (·.size) = some (CH.toArray).size) := by show _ = _; rw [HCHI.out]; rfl
  have x0 : wx.cell? ⟨g, 0, none⟩ = some (.string NM) := cell_of rg 0 _ rfl;have HRG := tHid rg;have HNX := tHid HNx;clear rg HNx HG;have HGE := tHid HGe;clear HGe;go_upto_region 3 with (first
   | (refine wpList_load_row rfl 62 _ rfl hb (by first | rfl | simp [Act.eval]) 62 _ (0, 0) _ HRX.out Tryz.underlying62 rfl HHI.out ?_)
   | (go_at_call 90; (with_reducible refine (HKD.out _).mono ?_); rintro e w6 ⟨rfl, K6⟩; have b1 : w6.cell? ⟨g, 1, none⟩ = some (.int .i64 (0 : Nat)) := cell_of (Nw.heap K6 HRG.out) 1 _ rfl; have b2 := frz_of (Nw.heap K6 HRG.out) 1))
  have HGe := HGE.out;obtain ⟨W7, hW7⟩ : ∃ W7, w6.setCell ⟨g, 1, none⟩ (.int .i64 (kd : Nat)) = W7 := ⟨_, rfl⟩;have N7 : Hid (Nw W3 W7) := by
   rw [← hW7];exact (HNX.out.trans K6).setCell _ _ (.inr HGe)
  have R7 : Hid (W7.heap[g]? = some (.cells (EK NM M0 M1 M2 MT US GR kd (str []) 0#8) 32)) := by
   rw [← hW7];exact row_setN (Nw.heap K6 HRG.out) 1 _
  rw [hW7];clear hW7 K6 b1 b2 x0 HKD HRX HNX HRG;have c1 : W7.cell? ⟨g, 1, none⟩ = some (.int .i64 (kd : Nat)) := cell_of R7.out 1 _ rfl;have KEY3 : Hid (∀ U, Nw W3 U → (U.cell? ⟨kb, 0, none⟩ = some (.slice a P.length c) ∧ U.cell? ⟨kb, 1, none⟩ = some (.int .i64 (q : Nat)) ∧ U.cell? ⟨ab, 5, none⟩ = some (.string (nS A.link)) ∧ U.cell? ⟨ab, 6, none⟩ = some (.bool (nB A.link)) ∧ U.cell? ⟨hb, 9, none⟩ = some (.string h.link)) ∧ Nw W3 U) := fun U hU => by
   obtain ⟨z1, z2, z3, z4, z5, _⟩ := HR3.out U hU;exact ⟨⟨z1, z2, z3, z4, z5⟩, hU⟩
  by_cases h3 : kd = 3
  ·have k3 : (((kd : Nat) : Int) == 3) = true := by rw [h3]; rfl
   have HLK1 : Hid (LK = (if kd = 3 ∨ kd = 4 then LK else str [])) := by show _ = _; rw [if_pos (.inl h3)]
   have HLT1 : Hid ((0#8 : By) = (if kd = 5 then h.typ else 0#8)) := by show _ = _; rw [if_neg (by omega)]
   clear h3 HR3;go_upto_region 6 with fail;refine wp_region_held_drew (S := fun U => (U.cell? ⟨kb, 0, none⟩ = some (.slice a P.length c) ∧ U.cell? ⟨kb, 1, none⟩ = some (.int .i64 (q : Nat)) ∧ U.cell? ⟨ab, 5, none⟩ = some (.string (nS A.link)) ∧ U.cell? ⟨ab, 6, none⟩ = some (.bool (nB A.link)) ∧ U.cell? ⟨hb, 9, none⟩ = some (.string h.link)) ∧ Nw W3 U) (by kernel_rfl) (KEY3.out _ (N7.out.trans (Fr.refl _ _).drew)) (fun hHeld => ?_)
   refine tkH (i := 0) (oi := ⟨some 37, .load 121 (.tmp 3), 121, "entry.go:102", #[], none⟩) (v := ?_) rfl ?_ ?_;rotate_left
   ·intro U hSw; obtain ⟨⟨s0, s1, s2, s3, s4⟩, _⟩ := hSw; (go_simp <;> with_reducible rfl)
   try simp only [Act.put, nz1, nz2, nz3]
   refine tkH (i := 1) (oi := ⟨some 38, .fieldAddr 85 (.tmp 5) 4, 0, "entry.go:102", #[], none⟩) (v := ?_) rfl ?_ ?_;rotate_left
   ·intro U hSw; obtain ⟨⟨s0, s1, s2, s3, s4⟩, _⟩ := hSw; (go_simp <;> with_reducible rfl)
   try simp only [Act.put, nz1, nz2, nz3]
   refine tkH (i := 2) (oi := ⟨some 39, .load 83 (.tmp 38), 83, "entry.go:102", #[⟨1, .data⟩], none⟩) (v := ?_) rfl ?_ ?_;rotate_left
   ·intro U hSw; obtain ⟨⟨s0, s1, s2, s3, s4⟩, _⟩ := hSw; (go_simp <;> with_reducible rfl)
   try simp only [Act.put, nz1, nz2, nz3]
   refine tkH (i := 3) (oi := ⟨some 40, .fieldAddr 62 (.tmp 4) 9, 0, "entry.go:102", #[], none⟩) (v := ?_) rfl ?_ ?_;rotate_left
   ·intro U hSw; obtain ⟨⟨s0, s1, s2, s3, s4⟩, _⟩ := hSw; (go_simp <;> with_reducible rfl)
   try simp only [Act.put, nz1, nz2, nz3]
   refine tkH (i := 4) (oi := ⟨some 41, .load 9 (.tmp 40), 9, "entry.go:102", #[⟨3, .data⟩], none⟩) (v := ?_) rfl ?_ ?_;rotate_left
   ·intro U hSw; obtain ⟨⟨s0, s1, s2, s3, s4⟩, _⟩ := hSw; (go_simp <;> with_reducible rfl)
   try simp only [Act.put, nz1, nz2, nz3]
   have l0 : Nw W7 W7.drew := (Fr.refl _ _).drew;refine wpAnyH_ready (rs := [5]) (by kernel_rfl) (by simp) ?_;refine AllReadyH.cons (o := ⟨some 42, .call ⟨.value (.func 87), #[.tmp 39, .tmp 41], #[83, 9]⟩, 9, "entry.go:102", #[⟨2, .data⟩, ⟨4, .data⟩], none⟩) rfl (fun K hK => ?_) AllReadyH.nil;go_simp;go_at_call 87; with_reducible refine (HL1.out _).mono ?_; rintro e w8 ⟨rfl, l1⟩
   (try go_wp2_with fail)
   have l2 := l0.trans l1;refine hK.out _ _ (KEY3.out _ (N7.out.trans l2)) (fun _ => ?_);clear hK K;try simp only [Act.put, nz1, nz2, nz3]
   refine wpAnyH_ready (rs := [6]) (by kernel_rfl) (by simp) ?_;refine AllReadyH.cons (o := ⟨some 43, .call ⟨.value (.func 86), #[.tmp 37, .const (Value.string { data := #[108, 105, 110, 107, 112, 97, 116, 104] }), .tmp 42], #[121, 9, 9]⟩, 9, "entry.go:102", #[⟨0, .data⟩, ⟨5, .data⟩, ⟨5, .chain⟩], none⟩) rfl (fun K hK => ?_) AllReadyH.nil;go_simp;go_at_call 86; with_reducible refine (HL2.out _ (N7.out.trans l2)).mono ?_; rintro e w9 ⟨rfl, l3⟩
   (try go_wp2_with fail)
   have l4 := l2.trans l3;refine hK.out _ _ (KEY3.out _ (N7.out.trans l4)) (fun _ => ?_);clear hK K;try simp only [Act.put, nz1, nz2, nz3]
   refine tkH (i := 7) (oi := ⟨some 44, .fieldAddr 32 (.tmp 7) 5, 0, "entry.go:102", #[⟨0, .phase⟩, ⟨1, .phase⟩, ⟨2, .phase⟩, ⟨3, .phase⟩, ⟨4, .phase⟩, ⟨5, .phase⟩, ⟨6, .phase⟩], none⟩) (v := ?_) rfl ?_ ?_;rotate_left
   ·intro U hSw; obtain ⟨⟨s0, s1, s2, s3, s4⟩, _⟩ := hSw; (go_simp <;> with_reducible rfl)
   try simp only [Act.put, nz1, nz2, nz3]
   refine wpAnyH_ready (rs := [8]) (by kernel_rfl) (by simp) ?_;refine AllReadyH.cons (o := ⟨none, .store 9 (.tmp 44) (.tmp 43), 0, "entry.go:102", #[⟨7, .data⟩, ⟨6, .data⟩, ⟨6, .chain⟩, ⟨0, .phase⟩, ⟨1, .phase⟩, ⟨2, .phase⟩, ⟨3, .phase⟩, ⟨4, .phase⟩, ⟨5, .phase⟩, ⟨6, .phase⟩], none⟩) rfl (fun K hK => ?_) AllReadyH.nil;have r9 := Nw.heap l4 R7.out;have c9 : w9.cell? ⟨g, 9, none⟩ = some (.string (str [])) := cell_of r9 9 _ rfl;have f9 := frz_of r9 9;go_simp;have N9 : Nw W3 (w9.setCell ⟨g, 9, none⟩ (.string LK)) := (N7.out.trans l4).setCell _ _ (.inr HGe)
   refine hK.out _ _ (KEY3.out _ N9) (fun _ => ?_);clear hK K;refine wpAnyH_done (by kernel_rfl) ?_ _;have r10 := row_setN r9 9 (.string LK);obtain ⟨W5, e5, y1, y2, y3, y4, HB⟩ := HEND.out _ LK 0#8 N9 HLK1.out HLT1.out;have R10 := tHid r10;have Y1 := tHid y1;have Y2 := tHid y2;have Y3 := tHid y3;have Y4 := tHid y4;have E5 := tHid e5;clear r9 c9 f9 r10 y1 y2 y3 y4 e5 l0 l1 l2 l3 l4;generalize w9.setCell ⟨g, 9, none⟩ (.string LK) = W10 at *
   go_wp2_with (first
    | (refine wpList_load_row rfl 32 _ rfl g (by first | rfl | simp [Act.eval]) 32 (EK NM M0 M1 M2 MT US GR kd LK 0#8) (0, 0) _ R10.out Tryz.underlying32 rfl ekI ?_)
    | (refine wpList_store_row rfl 32 _ _ rfl ob (EK NM M0 M1 M2 MT US GR kd LK 0#8) (by first | rfl | simp [Act.eval]) (by first | rfl | simp [Act.eval]) 32 _ Y1.out Y2.out Y3.out Y4.out ?_; rw [E5.out]))
   exact HB.out _ rfl
  by_cases h4 : kd = 4
  ·have k3 : (((kd : Nat) : Int) == 3) = false := by rw [h4]; rfl
   have k4 : (((kd : Nat) : Int) == 4) = true := by rw [h4]; rfl
   have HLK1 : Hid (LK = (if kd = 3 ∨ kd = 4 then LK else str [])) := by show _ = _; rw [if_pos (.inr h4)]
   have HLT1 : Hid ((0#8 : By) = (if kd = 5 then h.typ else 0#8)) := by show _ = _; rw [if_neg (by omega)]
   clear h3 h4 HR3;go_upto_region 6 with fail;refine wp_region_held_drew (S := fun U => (U.cell? ⟨kb, 0, none⟩ = some (.slice a P.length c) ∧ U.cell? ⟨kb, 1, none⟩ = some (.int .i64 (q : Nat)) ∧ U.cell? ⟨ab, 5, none⟩ = some (.string (nS A.link)) ∧ U.cell? ⟨ab, 6, none⟩ = some (.bool (nB A.link)) ∧ U.cell? ⟨hb, 9, none⟩ = some (.string h.link)) ∧ Nw W3 U) (by kernel_rfl) (KEY3.out _ (N7.out.trans (Fr.refl _ _).drew)) (fun hHeld => ?_)
   refine tkH (i := 0) (oi := ⟨some 37, .load 121 (.tmp 3), 121, "entry.go:102", #[], none⟩) (v := ?_) rfl ?_ ?_;rotate_left
   ·intro U hSw; obtain ⟨⟨s0, s1, s2, s3, s4⟩, _⟩ := hSw; (go_simp <;> with_reducible rfl)
   try simp only [Act.put, nz1, nz2, nz3]
   refine tkH (i := 1) (oi := ⟨some 38, .fieldAddr 85 (.tmp 5) 4, 0, "entry.go:102", #[], none⟩) (v := ?_) rfl ?_ ?_;rotate_left
   ·intro U hSw; obtain ⟨⟨s0, s1, s2, s3, s4⟩, _⟩ := hSw; (go_simp <;> with_reducible rfl)
   try simp only [Act.put, nz1, nz2, nz3]
   refine tkH (i := 2) (oi := ⟨some 39, .load 83 (.tmp 38), 83, "entry.go:102", #[⟨1, .data⟩], none⟩) (v := ?_) rfl ?_ ?_;rotate_left
   ·intro U hSw; obtain ⟨⟨s0, s1, s2, s3, s4⟩, _⟩ := hSw; (go_simp <;> with_reducible rfl)
   try simp only [Act.put, nz1, nz2, nz3]
   refine tkH (i := 3) (oi := ⟨some 40, .fieldAddr 62 (.tmp 4) 9, 0, "entry.go:102", #[], none⟩) (v := ?_) rfl ?_ ?_;rotate_left
   ·intro U hSw; obtain ⟨⟨s0, s1, s2, s3, s4⟩, _⟩ := hSw; (go_simp <;> with_reducible rfl)
   try simp only [Act.put, nz1, nz2, nz3]
   refine tkH (i := 4) (oi := ⟨some 41, .load 9 (.tmp 40), 9, "entry.go:102", #[⟨3, .data⟩], none⟩) (v := ?_) rfl ?_ ?_;rotate_left
   ·intro U hSw; obtain ⟨⟨s0, s1, s2, s3, s4⟩, _⟩ := hSw; (go_simp <;> with_reducible rfl)
   try simp only [Act.put, nz1, nz2, nz3]
   have l0 : Nw W7 W7.drew := (Fr.refl _ _).drew;refine wpAnyH_ready (rs := [5]) (by kernel_rfl) (by simp) ?_;refine AllReadyH.cons (o := ⟨some 42, .call ⟨.value (.func 87), #[.tmp 39, .tmp 41], #[83, 9]⟩, 9, "entry.go:102", #[⟨2, .data⟩, ⟨4, .data⟩], none⟩) rfl (fun K hK => ?_) AllReadyH.nil;go_simp;go_at_call 87; with_reducible refine (HL1.out _).mono ?_; rintro e w8 ⟨rfl, l1⟩
   (try go_wp2_with fail)
   have l2 := l0.trans l1;refine hK.out _ _ (KEY3.out _ (N7.out.trans l2)) (fun _ => ?_);clear hK K;try simp only [Act.put, nz1, nz2, nz3]
   refine wpAnyH_ready (rs := [6]) (by kernel_rfl) (by simp) ?_;refine AllReadyH.cons (o := ⟨some 43, .call ⟨.value (.func 86), #[.tmp 37, .const (Value.string { data := #[108, 105, 110, 107, 112, 97, 116, 104] }), .tmp 42], #[121, 9, 9]⟩, 9, "entry.go:102", #[⟨0, .data⟩, ⟨5, .data⟩, ⟨5, .chain⟩], none⟩) rfl (fun K hK => ?_) AllReadyH.nil;go_simp;go_at_call 86; with_reducible refine (HL2.out _ (N7.out.trans l2)).mono ?_; rintro e w9 ⟨rfl, l3⟩
   (try go_wp2_with fail)
   have l4 := l2.trans l3;refine hK.out _ _ (KEY3.out _ (N7.out.trans l4)) (fun _ => ?_);clear hK K;try simp only [Act.put, nz1, nz2, nz3]
   refine tkH (i := 7) (oi := ⟨some 44, .fieldAddr 32 (.tmp 7) 5, 0, "entry.go:102", #[⟨0, .phase⟩, ⟨1, .phase⟩, ⟨2, .phase⟩, ⟨3, .phase⟩, ⟨4, .phase⟩, ⟨5, .phase⟩, ⟨6, .phase⟩], none⟩) (v := ?_) rfl ?_ ?_;rotate_left
   ·intro U hSw; obtain ⟨⟨s0, s1, s2, s3, s4⟩, _⟩ := hSw; (go_simp <;> with_reducible rfl)
   try simp only [Act.put, nz1, nz2, nz3]
   refine wpAnyH_ready (rs := [8]) (by kernel_rfl) (by simp) ?_;refine AllReadyH.cons (o := ⟨none, .store 9 (.tmp 44) (.tmp 43), 0, "entry.go:102", #[⟨7, .data⟩, ⟨6, .data⟩, ⟨6, .chain⟩, ⟨0, .phase⟩, ⟨1, .phase⟩, ⟨2, .phase⟩, ⟨3, .phase⟩, ⟨4, .phase⟩, ⟨5, .phase⟩, ⟨6, .phase⟩], none⟩) rfl (fun K hK => ?_) AllReadyH.nil;have r9 := Nw.heap l4 R7.out;have c9 : w9.cell? ⟨g, 9, none⟩ = some (.string (str [])) := cell_of r9 9 _ rfl;have f9 := frz_of r9 9;go_simp;have N9 : Nw W3 (w9.setCell ⟨g, 9, none⟩ (.string LK)) := (N7.out.trans l4).setCell _ _ (.inr HGe)
   refine hK.out _ _ (KEY3.out _ N9) (fun _ => ?_);clear hK K;refine wpAnyH_done (by kernel_rfl) ?_ _;have r10 := row_setN r9 9 (.string LK);obtain ⟨W5, e5, y1, y2, y3, y4, HB⟩ := HEND.out _ LK 0#8 N9 HLK1.out HLT1.out;have R10 := tHid r10;have Y1 := tHid y1;have Y2 := tHid y2;have Y3 := tHid y3;have Y4 := tHid y4;have E5 := tHid e5;clear r9 c9 f9 r10 y1 y2 y3 y4 e5 l0 l1 l2 l3 l4;generalize w9.setCell ⟨g, 9, none⟩ (.string LK) = W10 at *
   go_wp2_with (first
    | (refine wpList_load_row rfl 32 _ rfl g (by first | rfl | simp [Act.eval]) 32 (EK NM M0 M1 M2 MT US GR kd LK 0#8) (0, 0) _ R10.out Tryz.underlying32 rfl ekI ?_)
    | (refine wpList_store_row rfl 32 _ _ rfl ob (EK NM M0 M1 M2 MT US GR kd LK 0#8) (by first | rfl | simp [Act.eval]) (by first | rfl | simp [Act.eval]) 32 _ Y1.out Y2.out Y3.out Y4.out ?_; rw [E5.out]))
   exact HB.out _ rfl
  have k3 : (((kd : Nat) : Int) == 3) = false := by rw [beq_eq_false_iff_ne]; omega
  have k4 : (((kd : Nat) : Int) == 4) = false := by rw [beq_eq_false_iff_ne]; omega
  have HLK1 : Hid (str [] = (if kd = 3 ∨ kd = 4 then LK else str [])) := by show _ = _; rw [if_neg (by omega)]
  clear h3 h4 KEY3;by_cases h5 : kd = 5
  ·have k5 : (((kd : Nat) : Int) == 5) = true := by rw [h5]; rfl
   have HLT1 : Hid (h.typ = (if kd = 5 then h.typ else 0#8)) := by show _ = _; rw [if_pos h5]
   have t8 := (HR3.out W7 N7.out).2.2.2.2.2.1;have c11 : W7.cell? ⟨g, 11, none⟩ = some (.int .u8 0) := cell_of R7.out 11 _ rfl;have f11 := frz_of R7.out 11;obtain ⟨W8, hW8⟩ : ∃ W8, W7.setCell ⟨g, 11, none⟩ (.int .u8 h.typ.toNat) = W8 := ⟨_, rfl⟩;have N8 : Nw W3 W8 := by rw [← hW8]; exact N7.out.setCell _ _ (.inr HGe)
   have R8 : Hid (W8.heap[g]? = some (.cells (EK NM M0 M1 M2 MT US GR kd (str []) h.typ) 32)) := by
    rw [← hW8];exact row_setN R7.out 11 _
   obtain ⟨W5, e5, y1, y2, y3, y4, HB⟩ := HEND.out W8 (str []) h.typ N8 HLK1.out HLT1.out;have Y1 := tHid y1;have Y2 := tHid y2;have Y3 := tHid y3;have Y4 := tHid y4;have E5 := tHid e5;clear h5 HR3 y1 y2 y3 y4 e5 N8 HEND
   go_wp2_with (first
    | (refine wpList_load_row rfl 32 _ rfl g (by first | rfl | simp [Act.eval]) 32 (EK NM M0 M1 M2 MT US GR kd (str []) h.typ) (0, 0) _ R8.out Tryz.underlying32 rfl ekI ?_)
    | (refine wpList_store_row rfl 32 _ _ rfl ob (EK NM M0 M1 M2 MT US GR kd (str []) h.typ) (by first | rfl | simp [Act.eval]) (by first | rfl | simp [Act.eval]) 32 _ Y1.out Y2.out Y3.out Y4.out ?_; rw [E5.out]))
   exact HB.out _ rfl
  ·have k5 : (((kd : Nat) : Int) == 5) = false := by rw [beq_eq_false_iff_ne]; omega
   have HLT1 : Hid ((0#8 : By) = (if kd = 5 then h.typ else 0#8)) := by show _ = _; rw [if_neg h5]
   obtain ⟨W5, e5, y1, y2, y3, y4, HB⟩ := HEND.out W7 (str []) 0#8 N7.out HLK1.out HLT1.out;have Y1 := tHid y1;have Y2 := tHid y2;have Y3 := tHid y3;have Y4 := tHid y4;have E5 := tHid e5;clear h5 HR3 y1 y2 y3 y4 e5 HEND
   go_wp2_with (first
    | (refine wpList_load_row rfl 32 _ rfl g (by first | rfl | simp [Act.eval]) 32 (EK NM M0 M1 M2 MT US GR kd (str []) 0#8) (0, 0) _ R7.out Tryz.underlying32 rfl ekI ?_)
    | (refine wpList_store_row rfl 32 _ _ rfl ob (EK NM M0 M1 M2 MT US GR kd (str []) 0#8) (by first | rfl | simp [Act.eval]) (by first | rfl | simp [Act.eval]) 32 _ Y1.out Y2.out Y3.out Y4.out ?_; rw [E5.out]))
   exact HB.out _ rfl
 ·have HBAD : Hid (∀ V, Nw W3 V → Q (gvR (q : Nat) (mtE h P : Nat)) V) := fun V hV => by rw [hQ]; exact ⟨HN0w.out.trans hV, .inl ⟨hm, rfl⟩⟩
  have HC4 : Hid (∀ V, Nw W3 V → Calls Tryz.prog 89 #[.agg #[.slice a P.length c, .int .i64 (q : Nat)], .agg CH.toArray] V fun e w' => e = gvR (q : Nat) (mtE h P : Nat) ∧ Nw V w') := fun V hV => (HC40 V hV).mono (fun e w' H => mtA_bad H hm)
  clear HC40 HTX hQ hm;generalize (mtE h P) = E at *;clear hSS hN0 hN1 hNMe hUS hGR hAC n0 s4;go_enter Tryz.func56, Tryz.ntmps56;go_upto_region 1 with fail;rw [HW3.out]
  refine wp_region_held_drew (S := fun U => (U.cell? ⟨kb, 0, none⟩ = some (.slice a P.length c) ∧ U.cell? ⟨kb, 1, none⟩ = some (.int .i64 (q : Nat)) ∧ U.cell? ⟨ab, 3, none⟩ = some (.string (nS A.name)) ∧ U.cell? ⟨ab, 4, none⟩ = some (.bool (nB A.name)) ∧ U.cell? ⟨hb, 10, none⟩ = some (.string h.user) ∧ U.cell? ⟨hb, 11, none⟩ = some (.string h.group)) ∧ U.rangeAt hb 0 CH ∧ Nw W3 U) (by kernel_rfl) (KEY.out _ (Fr.refl _ _).drew) (fun hHeld => ?_)
  refine tkH (i := 0) (oi := ⟨some 8, .load 121 (.tmp 3), 121, "entry.go:93", #[], none⟩) (v := ?_) rfl ?_ ?_;rotate_left
  ·intro U hSw; obtain ⟨⟨s0, s1, s2, s3, s4, s5⟩, _, _⟩ := hSw; (go_simp <;> with_reducible rfl)
  try simp only [Act.put, nz1, nz2, nz3]
  refine tkH (i := 1) (oi := ⟨some 9, .fieldAddr 85 (.tmp 5) 3, 0, "entry.go:93", #[], none⟩) (v := ?_) rfl ?_ ?_;rotate_left
  ·intro U hSw; obtain ⟨⟨s0, s1, s2, s3, s4, s5⟩, _, _⟩ := hSw; (go_simp <;> with_reducible rfl)
  try simp only [Act.put, nz1, nz2, nz3]
  refine tkH (i := 2) (oi := ⟨some 10, .load 83 (.tmp 9), 83, "entry.go:93", #[⟨1, .data⟩], none⟩) (v := ?_) rfl ?_ ?_;rotate_left
  ·intro U hSw; obtain ⟨⟨s0, s1, s2, s3, s4, s5⟩, _, _⟩ := hSw; (go_simp <;> with_reducible rfl)
  try simp only [Act.put, nz1, nz2, nz3]
  refine wpAnyH_take (i := 3) (oi := ⟨some 11, .load 62 (.tmp 4), 62, "entry.go:93", #[], none⟩) (v := .agg CH.toArray) rfl (by kernel_rfl) (by kernel_rfl) (by kernel_rfl) (fun _ _ _ h => h) (yieldsIf_load_mid (by rfl) _ _ rfl hb 0 rfl CH _ (fun U hU => hU.2.1) Tryz.underlying62 rfl HCHI.out) (by assumption) ?_;try simp only [Act.put, nz1, nz2, nz3]
  refine tkH (i := 7) (oi := ⟨some 15, .load 121 (.tmp 3), 121, "entry.go:93", #[], none⟩) (v := ?_) rfl ?_ ?_;rotate_left
  ·intro U hSw; obtain ⟨⟨s0, s1, s2, s3, s4, s5⟩, _, _⟩ := hSw; (go_simp <;> with_reducible rfl)
  try simp only [Act.put, nz1, nz2, nz3]
  refine wpAnyH_take (i := 8) (oi := ⟨some 16, .load 62 (.tmp 4), 62, "entry.go:93", #[], none⟩) (v := .agg CH.toArray) rfl (by kernel_rfl) (by kernel_rfl) (by kernel_rfl) (fun _ _ _ h => h) (yieldsIf_load_mid (by rfl) _ _ rfl hb 0 rfl CH _ (fun U hU => hU.2.1) Tryz.underlying62 rfl HCHI.out) (by assumption) ?_;try simp only [Act.put, nz1, nz2, nz3]
  refine tkH (i := 10) (oi := ⟨some 18, .load 121 (.tmp 3), 121, "entry.go:93", #[], none⟩) (v := ?_) rfl ?_ ?_;rotate_left
  ·intro U hSw; obtain ⟨⟨s0, s1, s2, s3, s4, s5⟩, _, _⟩ := hSw; (go_simp <;> with_reducible rfl)
  try simp only [Act.put, nz1, nz2, nz3]
  refine tkH (i := 11) (oi := ⟨some 19, .fieldAddr 62 (.tmp 4) 10, 0, "entry.go:93", #[], none⟩) (v := ?_) rfl ?_ ?_;rotate_left
  ·intro U hSw; obtain ⟨⟨s0, s1, s2, s3, s4, s5⟩, _, _⟩ := hSw; (go_simp <;> with_reducible rfl)
  try simp only [Act.put, nz1, nz2, nz3]
  refine tkH (i := 12) (oi := ⟨some 20, .load 9 (.tmp 19), 9, "entry.go:93", #[⟨11, .data⟩], none⟩) (v := ?_) rfl ?_ ?_;rotate_left
  ·intro U hSw; obtain ⟨⟨s0, s1, s2, s3, s4, s5⟩, _, _⟩ := hSw; (go_simp <;> with_reducible rfl)
  try simp only [Act.put, nz1, nz2, nz3]
  refine tkH (i := 14) (oi := ⟨some 22, .load 121 (.tmp 3), 121, "entry.go:93", #[], none⟩) (v := ?_) rfl ?_ ?_;rotate_left
  ·intro U hSw; obtain ⟨⟨s0, s1, s2, s3, s4, s5⟩, _, _⟩ := hSw; (go_simp <;> with_reducible rfl)
  try simp only [Act.put, nz1, nz2, nz3]
  refine tkH (i := 15) (oi := ⟨some 23, .fieldAddr 62 (.tmp 4) 11, 0, "entry.go:93", #[], none⟩) (v := ?_) rfl ?_ ?_;rotate_left
  ·intro U hSw; obtain ⟨⟨s0, s1, s2, s3, s4, s5⟩, _, _⟩ := hSw; (go_simp <;> with_reducible rfl)
  try simp only [Act.put, nz1, nz2, nz3]
  refine tkH (i := 16) (oi := ⟨some 24, .load 9 (.tmp 23), 9, "entry.go:93", #[⟨15, .data⟩], none⟩) (v := ?_) rfl ?_ ?_;rotate_left
  ·intro U hSw; obtain ⟨⟨s0, s1, s2, s3, s4, s5⟩, _, _⟩ := hSw; (go_simp <;> with_reducible rfl)
  try simp only [Act.put, nz1, nz2, nz3]
  have k0 : Nw W3 W3.drew := (Fr.refl _ _).drew;refine wpAnyH_ready (rs := [4, 19]) (by kernel_rfl) (by simp) ?_;refine AllReadyH.cons (o := ⟨some 12, .call ⟨.value (.func 88), #[.tmp 11], #[62]⟩, 9, "entry.go:94", #[⟨3, .data⟩], none⟩) rfl (fun K hK => ?_) (AllReadyH.cons (o := ⟨some 7, .alloc 32, 0, "entry.go:93", #[], none⟩) rfl (fun K hK => ?_) AllReadyH.nil)
  ·(
   go_simp;go_at_call 88; with_reducible refine (HC1.out _ k0).mono ?_; rintro e k1w ⟨rfl, k1⟩
   (try go_wp2_with fail)
   have k1N := (k0).trans k1;refine hK.out _ _ (KEY.out _ k1N) (fun _ => ?_);clear hK K;try simp only [Act.put, nz1, nz2, nz3]
   refine wpAnyH_ready (rs := [5, 19]) (by kernel_rfl) (by simp) ?_;refine AllReadyH.cons (o := ⟨some 13, .call ⟨.value (.func 87), #[.tmp 10, .tmp 12], #[83, 9]⟩, 9, "entry.go:94", #[⟨2, .data⟩, ⟨4, .data⟩, ⟨4, .chain⟩], none⟩) rfl (fun K hK => ?_) (AllReadyH.cons (o := ⟨some 7, .alloc 32, 0, "entry.go:93", #[], none⟩) rfl (fun K hK => ?_) AllReadyH.nil)
   ·(
    go_simp;go_at_call 87; with_reducible refine (HC2.out _ k1N).mono ?_; rintro e k2w ⟨rfl, k2⟩
    (try go_wp2_with fail)
    have k2N := (k1N).trans k2;refine hK.out _ _ (KEY.out _ k2N) (fun _ => ?_);clear hK K;try simp only [Act.put, nz1, nz2, nz3]
    refine wpAnyH_ready (rs := [6, 19]) (by kernel_rfl) (by simp) ?_;refine AllReadyH.cons (o := ⟨some 14, .call ⟨.value (.func 86), #[.tmp 8, .const (Value.string { data := #[112, 97, 116, 104] }), .tmp 13], #[121, 9, 9]⟩, 9, "entry.go:94", #[⟨0, .data⟩, ⟨5, .data⟩, ⟨5, .chain⟩], none⟩) rfl (fun K hK => ?_) (AllReadyH.cons (o := ⟨some 7, .alloc 32, 0, "entry.go:93", #[], none⟩) rfl (fun K hK => ?_) AllReadyH.nil)
    ·(
     go_simp;go_at_call 86; with_reducible refine (HC3.out _ k2N).mono ?_; rintro e k3w ⟨rfl, k3⟩
     (try go_wp2_with fail)
     have k3N := (k2N).trans k3;refine hK.out _ _ (KEY.out _ k3N) (fun _ => ?_);clear hK K;try simp only [Act.put, nz1, nz2, nz3]
     refine wpAnyH_ready (rs := [9, 19]) (by kernel_rfl) (by simp) ?_;refine AllReadyH.cons (o := ⟨some 17, .call ⟨.value (.func 89), #[.tmp 15, .tmp 16], #[121, 62]⟩, 30, "entry.go:95", #[⟨7, .data⟩, ⟨8, .data⟩, ⟨6, .chain⟩], none⟩) rfl (fun K hK => ?_) (AllReadyH.cons (o := ⟨some 7, .alloc 32, 0, "entry.go:93", #[], none⟩) rfl (fun K hK => ?_) AllReadyH.nil)
     ·(
      go_simp;go_at_call 89; with_reducible refine (HC4.out _ k3N).mono ?_; rintro e k4w ⟨rfl, k4⟩
      (try dsimp only)
      exact ⟨rfl, HBAD.out _ (k3N.trans k4)⟩
      )
     ·(
      rw [if_pos (by rfl)];go_simp;have k5N := (k3N).trans ((Fr.refl (fun _ => False) _).alloc (.cells zeE 32));have k5R := alR k5N;have HGE := Fr.size k3N;refine hK.out _ _ (KEY.out _ k5N) (fun _ => ?_);clear hK K;try simp only [Act.put, nz1, nz2, nz3]
      refine wpAnyH_ready (rs := [9]) (by kernel_rfl) (by simp) ?_;refine AllReadyH.cons (o := ⟨some 17, .call ⟨.value (.func 89), #[.tmp 15, .tmp 16], #[121, 62]⟩, 30, "entry.go:95", #[⟨7, .data⟩, ⟨8, .data⟩, ⟨6, .chain⟩], none⟩) rfl (fun K hK => ?_) AllReadyH.nil;go_simp;go_at_call 89; with_reducible refine (HC4.out _ k5N).mono ?_; rintro e k6w ⟨rfl, k6⟩
      (try dsimp only)
      exact ⟨rfl, HBAD.out _ (k5N.trans k6)⟩
      )
     )
    ·(
     rw [if_pos (by rfl)];go_simp;have k7N := (k2N).trans ((Fr.refl (fun _ => False) _).alloc (.cells zeE 32));have k7R := alR k7N;have HGE := Fr.size k2N;refine hK.out _ _ (KEY.out _ k7N) (fun _ => ?_);clear hK K;try simp only [Act.put, nz1, nz2, nz3]
     refine wpAnyH_ready (rs := [6]) (by kernel_rfl) (by simp) ?_;refine AllReadyH.cons (o := ⟨some 14, .call ⟨.value (.func 86), #[.tmp 8, .const (Value.string { data := #[112, 97, 116, 104] }), .tmp 13], #[121, 9, 9]⟩, 9, "entry.go:94", #[⟨0, .data⟩, ⟨5, .data⟩, ⟨5, .chain⟩], none⟩) rfl (fun K hK => ?_) AllReadyH.nil;go_simp;go_at_call 86; with_reducible refine (HC3.out _ k7N).mono ?_; rintro e k8w ⟨rfl, k8⟩
     (try go_wp2_with fail)
     have k8N := (k7N).trans k8;have k8R := Nw.heap k8 k7R;refine hK.out _ _ (KEY.out _ k8N) (fun _ => ?_);clear hK K;try simp only [Act.put, nz1, nz2, nz3]
     refine wpAnyH_ready (rs := [9]) (by kernel_rfl) (by simp) ?_;refine AllReadyH.cons (o := ⟨some 17, .call ⟨.value (.func 89), #[.tmp 15, .tmp 16], #[121, 62]⟩, 30, "entry.go:95", #[⟨7, .data⟩, ⟨8, .data⟩, ⟨6, .chain⟩], none⟩) rfl (fun K hK => ?_) AllReadyH.nil;go_simp;go_at_call 89; with_reducible refine (HC4.out _ k8N).mono ?_; rintro e k9w ⟨rfl, k9⟩
     (try dsimp only)
     exact ⟨rfl, HBAD.out _ (k8N.trans k9)⟩
     )
    )
   ·(
    rw [if_pos (by rfl)];go_simp;have k10N := (k1N).trans ((Fr.refl (fun _ => False) _).alloc (.cells zeE 32));have k10R := alR k10N;have HGE := Fr.size k1N;refine hK.out _ _ (KEY.out _ k10N) (fun _ => ?_);clear hK K;try simp only [Act.put, nz1, nz2, nz3]
    refine wpAnyH_ready (rs := [5]) (by kernel_rfl) (by simp) ?_;refine AllReadyH.cons (o := ⟨some 13, .call ⟨.value (.func 87), #[.tmp 10, .tmp 12], #[83, 9]⟩, 9, "entry.go:94", #[⟨2, .data⟩, ⟨4, .data⟩, ⟨4, .chain⟩], none⟩) rfl (fun K hK => ?_) AllReadyH.nil;go_simp;go_at_call 87; with_reducible refine (HC2.out _ k10N).mono ?_; rintro e k11w ⟨rfl, k11⟩
    (try go_wp2_with fail)
    have k11N := (k10N).trans k11;have k11R := Nw.heap k11 k10R;refine hK.out _ _ (KEY.out _ k11N) (fun _ => ?_);clear hK K;try simp only [Act.put, nz1, nz2, nz3]
    refine wpAnyH_ready (rs := [6]) (by kernel_rfl) (by simp) ?_;refine AllReadyH.cons (o := ⟨some 14, .call ⟨.value (.func 86), #[.tmp 8, .const (Value.string { data := #[112, 97, 116, 104] }), .tmp 13], #[121, 9, 9]⟩, 9, "entry.go:94", #[⟨0, .data⟩, ⟨5, .data⟩, ⟨5, .chain⟩], none⟩) rfl (fun K hK => ?_) AllReadyH.nil;go_simp;go_at_call 86; with_reducible refine (HC3.out _ k11N).mono ?_; rintro e k12w ⟨rfl, k12⟩
    (try go_wp2_with fail)
    have k12N := (k11N).trans k12;have k12R := Nw.heap k12 k11R;refine hK.out _ _ (KEY.out _ k12N) (fun _ => ?_);clear hK K;try simp only [Act.put, nz1, nz2, nz3]
    refine wpAnyH_ready (rs := [9]) (by kernel_rfl) (by simp) ?_;refine AllReadyH.cons (o := ⟨some 17, .call ⟨.value (.func 89), #[.tmp 15, .tmp 16], #[121, 62]⟩, 30, "entry.go:95", #[⟨7, .data⟩, ⟨8, .data⟩, ⟨6, .chain⟩], none⟩) rfl (fun K hK => ?_) AllReadyH.nil;go_simp;go_at_call 89; with_reducible refine (HC4.out _ k12N).mono ?_; rintro e k13w ⟨rfl, k13⟩
    (try dsimp only)
    exact ⟨rfl, HBAD.out _ (k12N.trans k13)⟩
    )
   )
  ·(
   rw [if_pos (by rfl)];go_simp;have k14N : Nw W3 (W3.alloc (.cells zeE 32)).drew := ((Fr.refl (fun _ => False) W3).alloc (.cells zeE 32)).drew;have k14R : ((W3.alloc (.cells zeE 32)).drew).heap[W3.heap.size]? = some (.cells zeE 32) := newHeap W3 _;have HGE : W3.heap.size ≤ W3.heap.size := Nat.le_refl _;refine hK.out _ _ (KEY.out _ k14N) (fun _ => ?_);clear hK K;try simp only [Act.put, nz1, nz2, nz3]
   refine wpAnyH_ready (rs := [4]) (by kernel_rfl) (by simp) ?_;refine AllReadyH.cons (o := ⟨some 12, .call ⟨.value (.func 88), #[.tmp 11], #[62]⟩, 9, "entry.go:94", #[⟨3, .data⟩], none⟩) rfl (fun K hK => ?_) AllReadyH.nil;go_simp;go_at_call 88; with_reducible refine (HC1.out _ k14N).mono ?_; rintro e k15w ⟨rfl, k15⟩
   (try go_wp2_with fail)
   have k15N := (k14N).trans k15;have k15R := Nw.heap k15 k14R;refine hK.out _ _ (KEY.out _ k15N) (fun _ => ?_);clear hK K;try simp only [Act.put, nz1, nz2, nz3]
   refine wpAnyH_ready (rs := [5]) (by kernel_rfl) (by simp) ?_;refine AllReadyH.cons (o := ⟨some 13, .call ⟨.value (.func 87), #[.tmp 10, .tmp 12], #[83, 9]⟩, 9, "entry.go:94", #[⟨2, .data⟩, ⟨4, .data⟩, ⟨4, .chain⟩], none⟩) rfl (fun K hK => ?_) AllReadyH.nil;go_simp;go_at_call 87; with_reducible refine (HC2.out _ k15N).mono ?_; rintro e k16w ⟨rfl, k16⟩
   (try go_wp2_with fail)
   have k16N := (k15N).trans k16;have k16R := Nw.heap k16 k15R;refine hK.out _ _ (KEY.out _ k16N) (fun _ => ?_);clear hK K;try simp only [Act.put, nz1, nz2, nz3]
   refine wpAnyH_ready (rs := [6]) (by kernel_rfl) (by simp) ?_;refine AllReadyH.cons (o := ⟨some 14, .call ⟨.value (.func 86), #[.tmp 8, .const (Value.string { data := #[112, 97, 116, 104] }), .tmp 13], #[121, 9, 9]⟩, 9, "entry.go:94", #[⟨0, .data⟩, ⟨5, .data⟩, ⟨5, .chain⟩], none⟩) rfl (fun K hK => ?_) AllReadyH.nil;go_simp;go_at_call 86; with_reducible refine (HC3.out _ k16N).mono ?_; rintro e k17w ⟨rfl, k17⟩
   (try go_wp2_with fail)
   have k17N := (k16N).trans k17;have k17R := Nw.heap k17 k16R;refine hK.out _ _ (KEY.out _ k17N) (fun _ => ?_);clear hK K;try simp only [Act.put, nz1, nz2, nz3]
   refine wpAnyH_ready (rs := [9]) (by kernel_rfl) (by simp) ?_;refine AllReadyH.cons (o := ⟨some 17, .call ⟨.value (.func 89), #[.tmp 15, .tmp 16], #[121, 62]⟩, 30, "entry.go:95", #[⟨7, .data⟩, ⟨8, .data⟩, ⟨6, .chain⟩], none⟩) rfl (fun K hK => ?_) AllReadyH.nil;go_simp;go_at_call 89; with_reducible refine (HC4.out _ k17N).mono ?_; rintro e k18w ⟨rfl, k18⟩
   (try dsimp only)
   exact ⟨rfl, HBAD.out _ (k17N.trans k18)⟩
   )
end Go.Proofs.YtlenihpbhlfcoaaGreatDoor
