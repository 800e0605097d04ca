/- Contracts of the model's draws of one sign matrix (at times another table). Conditions: bytes that are read. -/
import Derived.Test.YtnhkclnloiiihaaSgW
namespace Go.Proofs.Ytnhkclnloiiihaa
open Go.RowKit

/-- what a draw of a table hands back -/
def DPost (w : World) (e : Ending) (w' : World) : Prop := ∃ v M, e = .returned v ∧ OwnM w' w.heap.size v M ∧ Drawn M ∧ Below w.heap.size w w'
theorem signs_draw (a : Option Addr) (n c mo : Nat) (w : World) (h1 : 1 ≤ mo) (h6 : mo ≤ 6) (hn : n ≤ 1048576) (hB : BytesIn w a n) :
    Calls Try.prog 139 #[.pointer (some ⟨w.heap.size, 0, none⟩), .int .i64 (mo : Int)] (w.alloc (.cells #[.slice a n c, .int .i64 0, .int .u64 0] 62)) (DPost w) := by
  have hb : Below w.heap.size w (w.alloc (.cells #[.slice a n c, .int .i64 0, .int .u64 0] 62)) := (Below.refl _ _).alloc (Nat.le_refl _) _
  refine (curSigns_any w w.heap.size a n c 0 0 mo _ h1 h6 (by omega) (by omega) hB hb (Nat.le_refl _) (CurAt.new w a n c)).mono ?_
  rintro e w' ⟨v, M, k', s', rfl, hv, hd, _, _, hK⟩
  exact ⟨v, M, rfl, hv.base (by simp), hd, hK.below hb (Nat.le_refl _) (by simp)⟩
set_option maxRecDepth 100000 in
set_option maxHeartbeats 400000 in
theorem drawIsSignMatrix_any (a : Option Addr) (n c : Nat) (w : World) (hn : n ≤ 1048576) (hB : BytesIn w a n) :
    Calls Try.prog 121 #[.slice a n c] w (DPost w) := by
  have C := Lib.hid (signs_draw a n c 5 w (by decide) (by decide) hn hB)
  clear hB
  go_enter Try.func121, Try.ntmps121
  go_wp2_with fail
  refine C.out.mono ?_
  rintro e w2 ⟨v, M, rfl, hv, hd, hb⟩
  have H := Lib.hid (show DPost w (.returned v) w2 from ⟨v, M, rfl, hv, hd, hb⟩)
  clear hv hd hb
  go_wp2
  go_ret
  exact H.out
set_option maxRecDepth 100000 in
set_option maxHeartbeats 400000 in
theorem drawKindsOf_any (a : Option Addr) (n c : Nat) (w : World) (hn : n ≤ 1048576) (hB : BytesIn w a n) :
    Calls Try.prog 67 #[.slice a n c] w (DPost w) := by
  have C := Lib.hid (signs_draw a n c 5 w (by decide) (by decide) hn hB)
  clear hB
  go_enter Try.func67, Try.ntmps67
  go_wp2_with fail
  refine C.out.mono ?_
  rintro e w2 ⟨v, M, rfl, hv, hd, hb⟩
  have H := Lib.hid (show DPost w (.returned v) w2 from ⟨v, M, rfl, hv, hd, hb⟩)
  clear hv hd hb
  go_wp2
  go_ret
  exact H.out
set_option maxRecDepth 100000 in
set_option maxHeartbeats 400000 in
theorem drawCornerSums_any (a : Option Addr) (n c : Nat) (w : World) (hn : n ≤ 1048576) (hB : BytesIn w a n) :
    Calls Try.prog 35 #[.slice a n c] w (DPost w) := by
  have C := Lib.hid (drawIsSignMatrix_any a n c w hn hB)
  clear hB
  go_enter Try.func35, Try.ntmps35
  go_wp2_with fail
  refine C.out.mono ?_
  rintro e w2 ⟨v, M, rfl, hv, hd, hb⟩
  have H := Lib.hid (show DPost w (.returned v) w2 from ⟨v, M, rfl, hv, hd, hb⟩)
  clear hv hd hb
  go_wp2
  go_ret
  exact H.out
set_option maxRecDepth 100000 in
set_option maxHeartbeats 400000 in
theorem drawInversionsOf_any (a : Option Addr) (n c : Nat) (w : World) (hn : n ≤ 1048576) (hB : BytesIn w a n) :
    Calls Try.prog 63 #[.slice a n c] w (DPost w) := by
  have C := Lib.hid (drawIsSignMatrix_any a n c w hn hB)
  clear hB
  go_enter Try.func63, Try.ntmps63
  go_wp2_with fail
  refine C.out.mono ?_
  rintro e w2 ⟨v, M, rfl, hv, hd, hb⟩
  have H := Lib.hid (show DPost w (.returned v) w2 from ⟨v, M, rfl, hv, hd, hb⟩)
  clear hv hd hb
  go_wp2
  go_ret
  exact H.out
set_option maxRecDepth 100000 in
set_option maxHeartbeats 400000 in
theorem drawTurnMatrix_any (a : Option Addr) (n c : Nat) (w : World) (hn : n ≤ 1048576) (hB : BytesIn w a n) :
    Calls Try.prog 53 #[.slice a n c] w (DPost w) := by
  have C := Lib.hid (drawIsSignMatrix_any a n c w hn hB)
  clear hB
  go_enter Try.func53, Try.ntmps53
  go_wp2_with fail
  refine C.out.mono ?_
  rintro e w2 ⟨v, M, rfl, hv, hd, hb⟩
  have H := Lib.hid (show DPost w (.returned v) w2 from ⟨v, M, rfl, hv, hd, hb⟩)
  clear hv hd hb
  go_wp2
  go_ret
  exact H.out
set_option maxRecDepth 100000 in
set_option maxHeartbeats 400000 in
theorem drawHeightsOf_any (a : Option Addr) (n c : Nat) (w : World) (hn : n ≤ 1048576) (hB : BytesIn w a n) :
    Calls Try.prog 76 #[.slice a n c] w (DPost w) := by
  have C := Lib.hid (drawIsSignMatrix_any a n c w hn hB)
  clear hB
  go_enter Try.func76, Try.ntmps76
  go_wp2_with fail
  refine C.out.mono ?_
  rintro e w2 ⟨v, M, rfl, hv, hd, hb⟩
  have H := Lib.hid (show DPost w (.returned v) w2 from ⟨v, M, rfl, hv, hd, hb⟩)
  clear hv hd hb
  go_wp2
  go_ret
  exact H.out
end Go.Proofs.Ytnhkclnloiiihaa
