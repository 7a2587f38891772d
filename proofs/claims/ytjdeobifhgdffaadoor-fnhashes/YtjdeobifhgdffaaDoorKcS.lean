/- What is proved here: what the model's l2Low and l2Bytes answer. -/
import Derived.Test.YtjdeobifhgdffaaDoorMixS
import Derived.Test.YtjdeobifhgdffaaDoorKcF
import Derived.Test.YtjdeobifhgdffaaDoorLaneE
import Derived.Test.YtjdeobifhgdffaaDoorInfo2
import Derived.BigQuiet
import Derived.Deep.QuietTactic
import Derived.WalkSmall
import Derived.WalkSpells
import Derived.BigRegion
namespace Go.Proofs.YtjdeobifhgdffaaDoor
open Go.RowKit
set_option linter.unusedVariables false
attribute [local go_sem ↓] Go.wp_at_zero Go.wp_at_succ

set_option maxHeartbeats 2000000 in
theorem l2Low_any (b off cap x0 x1 x2 x3 : Nat) (w : World) (h0 : x0 < 256) (h1 : x1 < 256) (h2 : x2 < 256) (h3 : x3 < 256)
    (c0 : w.cell? ⟨b, off, none⟩ = some (.int .u8 (x0 : Int))) (c1 : w.cell? ⟨b, off + 1, none⟩ = some (.int .u8 (x1 : Int))) (c2 : w.cell? ⟨b, off + 2, none⟩ = some (.int .u8 (x2 : Int))) (c3 : w.cell? ⟨b, off + 3, none⟩ = some (.int .u8 (x3 : Int))) :
    Calls Tryd.prog 54 #[.slice (some ⟨b, off, none⟩) 4 cap] w fun e w' => e = .returned (.int .i64 ((x0 + x1 * 256 + x2 * 65536 + x3 * 16777216 : Nat) : Int)) ∧ ∃ n, w' = w.drewN n := by
  obtain ⟨a1, e1⟩ : ∃ a1, a1 = x1 * 256 := ⟨_, rfl⟩
  obtain ⟨a2, e2⟩ : ∃ a2, a2 = x2 * 65536 := ⟨_, rfl⟩
  obtain ⟨a3, e3⟩ : ∃ a3, a3 = x3 * 16777216 := ⟨_, rfl⟩
  rw [← e1, ← e2, ← e3]
  obtain ⟨s1, f1⟩ : ∃ s1, s1 = x0 + a1 := ⟨_, rfl⟩
  obtain ⟨s2, f2⟩ : ∃ s2, s2 = s1 + a2 := ⟨_, rfl⟩
  obtain ⟨s3, f3⟩ : ∃ s3, s3 = s2 + a3 := ⟨_, rfl⟩
  rw [← f1, ← f2, ← f3]
  have y0 : IntKind.i64.wrap (x0 : Int) = (x0 : Int) := i64_fits _ (by omega) (by omega)
  have y1 : IntKind.i64.wrap (x1 : Int) = (x1 : Int) := i64_fits _ (by omega) (by omega)
  have y2 : IntKind.i64.wrap (x2 : Int) = (x2 : Int) := i64_fits _ (by omega) (by omega)
  have y3 : IntKind.i64.wrap (x3 : Int) = (x3 : Int) := i64_fits _ (by omega) (by omega)
  have m1 : (x1 : Int) * 256 = (a1 : Int) := by omega
  have m2 : (x2 : Int) * 65536 = (a2 : Int) := by omega
  have m3 : (x3 : Int) * 16777216 = (a3 : Int) := by omega
  have u1 : IntKind.i64.wrap (a1 : Int) = (a1 : Int) := i64_fits _ (by omega) (by omega)
  have u2 : IntKind.i64.wrap (a2 : Int) = (a2 : Int) := i64_fits _ (by omega) (by omega)
  have u3 : IntKind.i64.wrap (a3 : Int) = (a3 : Int) := i64_fits _ (by omega) (by omega)
  have n1 : (x0 : Int) + (a1 : Int) = (s1 : Int) := by omega
  have n2 : (s1 : Int) + (a2 : Int) = (s2 : Int) := by omega
  have n3 : (s2 : Int) + (a3 : Int) = (s3 : Int) := by omega
  have v1 : IntKind.i64.wrap (s1 : Int) = (s1 : Int) := i64_fits _ (by omega) (by omega)
  have v2 : IntKind.i64.wrap (s2 : Int) = (s2 : Int) := i64_fits _ (by omega) (by omega)
  have v3 : IntKind.i64.wrap (s3 : Int) = (s3 : Int) := i64_fits _ (by omega) (by omega)
  clear h0 h1 h2 h3 e1 e2 e3 f1 f2 f3
  go_enter Tryd.func54, Tryd.ntmps54
  go_wp2_with fail
  go_quiet (fail)
  go_wp2_with fail
  go_ret
  exact ⟨rfl, _, rfl⟩

/-- The four bytes of a word, the lowest one first. -/
def wordBytes (v : Nat) : List Int := [((v % 256 : Nat) : Int), ((v / 256 % 256 : Nat) : Int), ((v / 65536 % 256 : Nat) : Int), ((v / 16777216 : Nat) : Int)]

set_option maxHeartbeats 2000000 in
theorem l2Bytes_any (v : Nat) (hv : v < 4294967296) (w : World) :
    Calls Tryd.prog 55 #[.int .i64 (v : Int)] w fun e w' => e = .returned (.slice (some ⟨w.heap.size, 0, none⟩) 4 4) ∧ w' = w.alloc (.cells ((wordBytes v).map (Value.int .u8)).toArray 5) := by
  obtain ⟨a0, e0⟩ : ∃ a, a = v % 256 := ⟨_, rfl⟩
  obtain ⟨b1, f1⟩ : ∃ a, a = v / 256 := ⟨_, rfl⟩
  obtain ⟨b2, f2⟩ : ∃ a, a = v / 65536 := ⟨_, rfl⟩
  obtain ⟨b3, f3⟩ : ∃ a, a = v / 16777216 := ⟨_, rfl⟩
  obtain ⟨a1, e1⟩ : ∃ a, a = b1 % 256 := ⟨_, rfl⟩
  obtain ⟨a2, e2⟩ : ∃ a, a = b2 % 256 := ⟨_, rfl⟩
  have HWB : Hid (wordBytes v = [(a0 : Int), (a1 : Int), (a2 : Int), (b3 : Int)]) := by
    show _ = _
    unfold wordBytes
    rw [e1, e2, f1, f2, f3, e0]
  have m0 : (v : Int).tmod 256 = (a0 : Int) := by rw [Int.tmod_eq_emod_of_nonneg (by omega)]; omega
  have m1 : (v : Int).tdiv 256 = (b1 : Int) := by rw [Int.tdiv_eq_ediv_of_nonneg (by omega)]; omega
  have m2 : (v : Int).tdiv 65536 = (b2 : Int) := by rw [Int.tdiv_eq_ediv_of_nonneg (by omega)]; omega
  have m3 : (v : Int).tdiv 16777216 = (b3 : Int) := by rw [Int.tdiv_eq_ediv_of_nonneg (by omega)]; omega
  have m4 : (b1 : Int).tmod 256 = (a1 : Int) := by rw [Int.tmod_eq_emod_of_nonneg (by omega)]; omega
  have m5 : (b2 : Int).tmod 256 = (a2 : Int) := by rw [Int.tmod_eq_emod_of_nonneg (by omega)]; omega
  have y0 : IntKind.i64.wrap (a0 : Int) = (a0 : Int) := i64_fits _ (by omega) (by omega)
  have y1 : IntKind.i64.wrap (a1 : Int) = (a1 : Int) := i64_fits _ (by omega) (by omega)
  have y2 : IntKind.i64.wrap (a2 : Int) = (a2 : Int) := i64_fits _ (by omega) (by omega)
  have y3 : IntKind.i64.wrap (b1 : Int) = (b1 : Int) := i64_fits _ (by omega) (by omega)
  have y4 : IntKind.i64.wrap (b2 : Int) = (b2 : Int) := i64_fits _ (by omega) (by omega)
  have y5 : IntKind.i64.wrap (b3 : Int) = (b3 : Int) := i64_fits _ (by omega) (by omega)
  have z0 : IntKind.u8.wrap (a0 : Int) = (a0 : Int) := by rw [IntKind.wrap_u8]; omega
  have z1 : IntKind.u8.wrap (a1 : Int) = (a1 : Int) := by rw [IntKind.wrap_u8]; omega
  have z2 : IntKind.u8.wrap (a2 : Int) = (a2 : Int) := by rw [IntKind.wrap_u8]; omega
  have z3 : IntKind.u8.wrap (b3 : Int) = (b3 : Int) := by rw [IntKind.wrap_u8]; omega
  clear e0 e1 e2 f1 f2 f3 hv
  go_enter Tryd.func55, Tryd.ntmps55
  go_wp2_with fail
  go_ret
  exact ⟨rfl, by rw [unhide HWB]; rfl⟩

end Go.Proofs.YtjdeobifhgdffaaDoor
