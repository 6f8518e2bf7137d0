/- The walk of IntegerLimits. -/
import Derived.Test.YtnehkoedmcnjoaaDoorLimGzs
import Derived.Test.YtnehkoedmcnjoaaDoorLimGps
import Derived.Test.YtnehkoedmcnjoaaDoorLimGpb
import Derived.Test.YtnehkoedmcnjoaaDoorLimLzs
import Derived.Test.YtnehkoedmcnjoaaDoorLimLps
import Derived.Test.YtnehkoedmcnjoaaDoorLimLpb
namespace Go.Proofs.YtnehkoedmcnjoaaDoor
open Go.RowKit

theorem limits_walk (a : ByteArray) (c d : Int) (hc : -9223372036854775808 ≤ c) (hc1 : c ≤ 9223372036854775807) (hd : -9223372036854775808 ≤ d) (hd1 : d ≤ 9223372036854775807) (w : World) (ht : Tab w) :
    Calls Tryd.prog 10 #[.string a, .int .i64 c, .int .i64 d] w fun e w' => e = .returned (.bool true) ∧ Below w.heap.size w w' := by
  rcases Int.lt_or_le 0 (madeZ a 5) with h | h
  · by_cases hm : pk c = 0
    · exact limits_gzs a _ _ c d (pk d) (made_at rfl rfl (by decide)) rfl (made_bd a 5) h hc hc1 hd hd1 (by rw [hm]; rfl) rfl (by decide) (pk_lt d) (pk_lt d) w ht
    · by_cases hs : pk c + pk d < 200
      · exact limits_gps a _ _ c d (pk c) (pk d) (made_at rfl rfl (by decide)) rfl (made_bd a 5) h hc hc1 hd hd1 rfl rfl (pk_lt c) (pk_lt d) (by omega) hs w ht
      · exact limits_gpb a _ _ c d (pk c) (pk d) (made_at rfl rfl (by decide)) rfl (made_bd a 5) h hc hc1 hd hd1 rfl rfl (pk_lt c) (pk_lt d) (by omega) hs w ht
  · by_cases hm : pk c = 0
    · exact limits_lzs a _ _ c d (pk d) (made_at rfl rfl (by decide)) rfl (made_bd a 5) h hc hc1 hd hd1 (by rw [hm]; rfl) rfl (by decide) (pk_lt d) (pk_lt d) w ht
    · by_cases hs : pk c + pk d < 200
      · exact limits_lps a _ _ c d (pk c) (pk d) (made_at rfl rfl (by decide)) rfl (made_bd a 5) h hc hc1 hd hd1 rfl rfl (pk_lt c) (pk_lt d) (by omega) hs w ht
      · exact limits_lpb a _ _ c d (pk c) (pk d) (made_at rfl rfl (by decide)) rfl (made_bd a 5) h hc hc1 hd hd1 rfl rfl (pk_lt c) (pk_lt d) (by omega) hs w ht
end Go.Proofs.YtnehkoedmcnjoaaDoor
