/- The walk of okey.Range. -/
import Derived.Test.YtognddehcfjiaaaOkeyD
import Derived.Deep.RegionLaw
namespace Go.Proofs.Ytognddehcfjiaaa
open Go.RowKit

set_option maxRecDepth 100000 in
set_option maxHeartbeats 2000000 in
theorem range_any (ao : Option Addr) (len cap : Nat) (ps : List Pt) (w : World) (hA : SeesP w (.slice ao len cap) ps) (hl : len ≤ 1000000) (hz : sizl ps ≤ 1000000000) (hn : ∀ i, (ps.getD i pd).n < 18446744073709551616) :
    Calls Try.prog 13 #[.slice ao len cap] w (Gives (.tuple #[.string ⟨(keyl ps).toArray⟩, .string ⟨(keyl ps ++ [3]).toArray⟩]) w) := by
  obtain ⟨i0, hi, hz0, hz1, hz2⟩ := info_parts info_u8
  have HK := Lib.hid (appendKey_any ao len cap ps w hA hl hz hn)
  have hlen : (keyl ps).length ≤ 3000000000 := by
    have h1 := keyl_length ps
    have h2 := hA.get.1
    omega
  have HLL := Lib.hid hlen
  clear hA hl hz hn hlen
  generalize keyl ps = L at *
  go_enter Try.func13, Try.ntmps13
  go_wp2_with fail
  refine HK.out.mono ?_
  rintro e w1 ⟨v, rfl, ho, hb⟩
  have hsz := hb.size
  have hc : (convert 50 9 v).run Try.prog w1 = .ok (.string ⟨L.toArray⟩) w1 := ho.convert
  have hraw : w1.ownsRow w.heap.size 5 1 v L.length (L.map cellOf) := ho
  go_wp2_with fail
  have hcA : (convert 50 9 v).run Try.prog w1.drew = .ok (.string ⟨L.toArray⟩) w1.drew := Owns.convert (show Owns w1.drew w.heap.size v L from hraw.drew)
  have hcB : (convert 50 9 v).run Try.prog (w1.alloc (.cells #[.int .u8 3] 5)).drew = .ok (.string ⟨L.toArray⟩) (w1.alloc (.cells #[.int .u8 3] 5)).drew := Owns.convert (show Owns (w1.alloc _).drew w.heap.size v L from (hraw.alloc _).drew)
  clear hc
  go_region_law (refine step_append_keeps _ (by rfl) _ _ _ (by rfl) w.heap.size 5 i0 _ 1 1 Try.underlying50 hi hz0 hz1 hz2 rfl (by omega) v _ _ (by rfl) ((hraw.alloc _).drew) ⟨w1.heap.size, 0, none⟩ 1 1 [.int .u8 3] (by rfl) (by rfl) (World.news_of_block (cs := #[.int .u8 3]) (t := 5) (fr := (0, 0)) (heap_alloc_new w1 _)) (by simp [Value.oneCell']) (by have := HLL.out; unfold maxLen; omega) (by have := HLL.out; omega) (by simp; omega) ?_; intro v2 w2 hown2 hgrow hkeep; have hc2 : (convert 50 9 v2).run Try.prog w2 = .ok (.string ⟨(L ++ [3]).toArray⟩) w2 := Owns.convert (Owns.snoc (b := 3) hown2); have hcC : (convert 50 9 v).run Try.prog w2 = .ok (.string ⟨L.toArray⟩) w2 := Owns.convert hkeep)
  all_goals
    go_wp2_with fail
    go_ret2
    exact ⟨rfl, ((hb.alloc hsz _).drew).grown hgrow (by simp; omega) (fun j hj => (hraw.lt j hj).1)⟩

end Go.Proofs.Ytognddehcfjiaaa
