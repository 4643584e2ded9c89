import Derived.Test.YtdeefemeiggolaaXxPq
import Derived.Test.YtdeefemeiggolaaQf
namespace Go.Proofs.Ytdeefemeiggolaa
open Go.RowKit
set_option linter.unusedVariables false
theorem nil32 (s : BitVec 32) : s32 s [] = xc32 (xb32 (xa32 (s + 374761393#32))) := by
  show ava32 (s + 374761393#32 + 0#32) = _
  rw [BitVec.add_zero]; rfl
theorem nil64 (s : BitVec 64) : s64 s [] = xc64 (xb64 (xa64 (s + 2870177450012600261#64))) := by
  show ava64 (s + 2870177450012600261#64 + 0#64) = _
  rw [BitVec.add_zero]; rfl
set_option maxHeartbeats 40000000 in
set_option maxRecDepth 100000 in
theorem rsum32_nil (a : Option Addr) (s : BitVec 32) (w : World) : Calls Try.prog 45 #[.int .u32 s.toNat, .slice a 0 0] w fun e w' => e = .returned (.int .u32 (s32 s []).toNat) ∧ Nw w w' := by
  obtain ⟨h0, hh0⟩ : ∃ h0, h0 = s + 374761393#32 := ⟨_, rfl⟩
  have hE0 : ((s.toNat : Int) + 374761393) % 4294967296 = (h0.toNat : Int) := by
    rw [hh0, i_add32]; simp only [BitVec.toNat_ofNat]; omega
  have hS : Hid (((s32 s []).toNat : Int) = ((xc32 (xb32 (xa32 h0))).toNat : Int)) := by show _ = _; rw [nil32, hh0]
  clear hh0
  go_enter Try.func45, Try.ntmps45
  go_wp2
  go_loopg [5, 6] 1 (fun kx h r wr => h = .int .u32 h0.toNat ∧ r = .slice a 0 0 ∧ wr = w)
  case atStart => exact ⟨rfl, rfl, rfl⟩
  case round =>
    obtain ⟨rfl, rfl, rfl⟩ := hrel
    go_wp2
    go_loopg [5, 6] 1 (fun kx h r wr' => h = .int .u32 h0.toNat ∧ r = .slice a 0 0 ∧ wr' = wr)
    case atStart => exact ⟨rfl, rfl, rfl⟩
    case round =>
      obtain ⟨rfl, rfl, rfl⟩ := hrel
      go_wp2
      go_ret
      exact ⟨congrArg (fun z => Ending.returned (.int .u32 z)) (by rw [hS.out]; (try simp only [IntKind.wrap_u32]); rw [i_xa32, i_xb32, i_xc32]), Fr.refl _ _⟩
theorem rsum32_any (s : BitVec 32) (v : Value) (b : List By) (w : World) (hv : Old w v b) : Calls Try.prog 45 #[.int .u32 s.toNat, v] w fun e w' => e = .returned (.int .u32 (s32 s b).toNat) ∧ Nw w w' := by
  rcases hv with ⟨a, rfl, rfl⟩ | ⟨g, hg, o, c, rfl, h1, h2, h3⟩
  · exact rsum32_nil a s w
  · by_cases h : b.length < 16
    · exact rsum32_few s g o c b w h3 h1 h2 h
    · exact rsum32_many s g o c b w (by omega) h3 h1 h2 h
end Go.Proofs.Ytdeefemeiggolaa
