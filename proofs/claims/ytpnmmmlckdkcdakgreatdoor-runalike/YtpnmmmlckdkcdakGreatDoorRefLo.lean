/- The document's Low (package fairref1). -/
import Derived.Test.YtpnmmmlckdkcdakGreatDoorRefC
namespace Go.Proofs.YtpnmmmlckdkcdakGreatDoor
namespace Fr
open Go.RowKit
set_option linter.unusedSimpArgs false
set_option linter.unusedVariables false

set_option maxHeartbeats 400000 in
theorem Low_any (t b : Int) (w : World) (h1 : -1000000000000000000 ≤ t) (h2 : t ≤ 1000000000000000000) (h3 : 1 ≤ b) (h4 : b ≤ 1000000000000000000) :
    Calls Tryz.prog 25 #[.int .i64 t, .int .i64 b] w fun e w' => e = .returned (.agg #[.int .i64 (lowT t b), .int .i64 (lowB t b)]) ∧ Below w.heap.size w w' := by
  have hg1 := gd_pos (t := t) h3
  by_cases h0 : 0 ≤ t
  · go_enter Tryz.func25, Tryz.ntmps25
    go_wp2_with fail
    refine (common_any t b _ (by omega) (by omega) (by omega) (by omega)).mono ?_
    rintro e w1 ⟨rfl, rfl⟩
    go_wp2
    go_region
    go_wp2
    exact bodyPost_ret (v := .agg #[.int .i64 (lowT t b), .int .i64 (lowB t b)]) (by simp [results, Tryz.results25, go_sem, lowT, lowB, tdiv_gd]) rfl ⟨rfl, ((Below.refl _ _).alloc (Nat.le_refl _) _).drew⟩
  · have h0' : t < 0 := by omega
    go_enter Tryz.func25, Tryz.ntmps25
    go_wp2_with fail
    refine (common_any t b _ (by omega) (by omega) (by omega) (by omega)).mono ?_
    rintro e w1 ⟨rfl, rfl⟩
    go_wp2
    go_region
    go_wp2
    exact bodyPost_ret (v := .agg #[.int .i64 (lowT t b), .int .i64 (lowB t b)]) (by simp [results, Tryz.results25, go_sem, lowT, lowB, tdiv_gd]) rfl ⟨rfl, ((Below.refl _ _).alloc (Nat.le_refl _) _).drew⟩

end Fr
end Go.Proofs.YtpnmmmlckdkcdakGreatDoor
