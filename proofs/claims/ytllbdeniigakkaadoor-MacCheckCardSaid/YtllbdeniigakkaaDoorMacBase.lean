/-
  Proved: what begun of package stillroomlaw3 returns.
  Conditions: the tables sha.start and sha.rounds hold their words.
-/
import Derived.Test.YtllbdeniigakkaaDoorMacCheck
import Derived.Test.YtllbdeniigakkaaDoorShaCom
import Derived.Test.YtllbdeniigakkaaDoorShaHex
namespace Go.Proofs.YtllbdeniigakkaaDoor.Sha
open Go.RowKit

theorem hex_fox : hexL ((hmac foxKey foxText).take 4) = [102, 55, 98, 99, 56, 51, 102, 52] := by rw [hmac_fox]; decide

/-- The known key's and the known text's cells. -/
def foxKeyCells : Array Value := #[Value.int .u8 107, Value.int .u8 101, Value.int .u8 121]
def foxTextCells : Array Value := #[Value.int .u8 84, Value.int .u8 104, Value.int .u8 101, Value.int .u8 32, Value.int .u8 113, Value.int .u8 117, Value.int .u8 105, Value.int .u8 99, Value.int .u8 107, Value.int .u8 32, Value.int .u8 98, Value.int .u8 114, Value.int .u8 111, Value.int .u8 119, Value.int .u8 110, Value.int .u8 32, Value.int .u8 102, Value.int .u8 111, Value.int .u8 120, Value.int .u8 32, Value.int .u8 106, Value.int .u8 117, Value.int .u8 109, Value.int .u8 112, Value.int .u8 115, Value.int .u8 32, Value.int .u8 111, Value.int .u8 118, Value.int .u8 101, Value.int .u8 114, Value.int .u8 32, Value.int .u8 116, Value.int .u8 104, Value.int .u8 101, Value.int .u8 32, Value.int .u8 108, Value.int .u8 97, Value.int .u8 122, Value.int .u8 121, Value.int .u8 32, Value.int .u8 100, Value.int .u8 111, Value.int .u8 103]
theorem foxKey_cells : foxKeyCells.toList = bvs foxKey := by kernel_rfl
theorem foxText_cells : foxTextCells.toList = bvs foxText := by kernel_rfl
/-- Two new blocks read as their cells. -/
theorem two_rows (w : World) (t s : TypeId) (fr gr : Nat × Nat) (a b : Array Value) :
    Row ((w.alloc (.cells a t fr)).alloc (.cells b s gr)) ((w.alloc (.cells a t fr)).alloc (.cells b s gr)).heap.size (some ⟨w.heap.size, 0, none⟩) a.size a.toList ∧
    Row ((w.alloc (.cells a t fr)).alloc (.cells b s gr)) ((w.alloc (.cells a t fr)).alloc (.cells b s gr)).heap.size (some ⟨w.heap.size + 1, 0, none⟩) b.size b.toList := by
  have h1 := ((Row.fresh w t fr a).below ((Below.refl (w.heap.size + 1) (w.alloc (.cells a t fr))).alloc (by simp) (.cells b s gr))).more (B' := ((w.alloc (.cells a t fr)).alloc (.cells b s gr)).heap.size) (by simp)
  have h2 := (Row.fresh (w.alloc (.cells a t fr)) s gr b).more (B' := ((w.alloc (.cells a t fr)).alloc (.cells b s gr)).heap.size) (by simp)
  have e : (w.alloc (.cells a t fr)).heap.size = w.heap.size + 1 := by simp
  exact ⟨h1, by rw [e] at h2; exact h2⟩
/-- The world behind the making of the known key and the known text. -/
def foxWorld (w : World) : World := (w.alloc (.cells foxKeyCells 5 (3, 4))).alloc (.cells foxTextCells 5 (43, 44))
theorem foxWorld_size (w : World) : (foxWorld w).heap.size = w.heap.size + 2 := by simp [foxWorld]
theorem foxWorld_rows (w : World) : Row (foxWorld w) (foxWorld w).heap.size (some ⟨w.heap.size, 0, none⟩) 3 (bvs foxKey) ∧ Row (foxWorld w) (foxWorld w).heap.size (some ⟨w.heap.size + 1, 0, none⟩) 43 (bvs foxText) ∧ Below w.heap.size w (foxWorld w) := by
  have h := two_rows w 5 5 (3, 4) (43, 44) foxKeyCells foxTextCells
  rw [foxKey_cells, foxText_cells] at h
  exact ⟨h.1, h.2, ((Below.refl _ _).alloc (Nat.le_refl _) _).alloc (by simp) _⟩
theorem fox_sum (w : World) (hT : Tables w) : Calls Tryd.prog 8 #[.slice (some ⟨w.heap.size, 0, none⟩) 3 3, .slice (some ⟨w.heap.size + 1, 0, none⟩) 43 43] ((w.alloc (.cells foxKeyCells 5 (3, 4))).alloc (.cells foxTextCells 5 (43, 44)))
    fun e w' => e = .returned (.agg (bvs (hmac foxKey foxText)).toArray) ∧ Below w.heap.size w w' := by
  obtain ⟨h1, h2, h3⟩ := foxWorld_rows w
  exact (macsum_any _ 3 3 foxKey _ 43 43 foxText (foxWorld w) (hT.all h3) h1 (by omega) (by unfold maxLen; omega) (by omega) h2 (by omega) (by unfold maxLen; omega) (by omega)).mono
    fun e w' h => ⟨h.1, h3.trans (h.2.mono h3.size)⟩
theorem fox_check (w : World) (g : Nat) (t : TypeId) (res : Array Value) (hres : res = (bvs (hmac foxKey foxText)).toArray) (hT : Tables w) (hb : Blk w g t res) : Calls Tryd.prog 10 #[.slice (some ⟨w.heap.size, 0, none⟩) 3 3, .slice (some ⟨w.heap.size + 1, 0, none⟩) 43 43, .slice (some ⟨g, 0, none⟩) 32 32] ((w.alloc (.cells foxKeyCells 5 (3, 4))).alloc (.cells foxTextCells 5 (43, 44)))
    fun e w' => e = .returned (.bool true) ∧ Below w.heap.size w w' := by
  obtain ⟨h1, h2, h3⟩ := foxWorld_rows w
  subst hres
  have hr := blk_row (n := 32) (show Blk (foxWorld w) g t _ from (h3.block g (blk_lt hb)).trans hb) (hmac_length _ _)
  exact (maccheck_any _ 3 3 foxKey _ 43 43 foxText _ 32 32 (hmac foxKey foxText) (foxWorld w) (hT.all h3) h1 (by omega) (by unfold maxLen; omega) (by omega) h2 (by omega) (by unfold maxLen; omega) (by omega) hr (by omega) (by unfold maxLen; omega)).mono
    fun e w' h => ⟨by have := h.1; rw [decide_eq_true rfl] at this; exact this, h3.trans (h.2.mono h3.size)⟩
theorem fox_hex (w : World) (g : Nat) (t : TypeId) (res : Array Value) (hres : res = (bvs (hmac foxKey foxText)).toArray) (hb : Blk w g t res) : Calls Tryd.prog 11 #[.slice (some ⟨g, 0, none⟩) 4 32] w
    fun e w' => e = .returned (.string ⟨#[102, 55, 98, 99, 56, 51, 102, 52]⟩) ∧ Below w.heap.size w w' := by
  subst hres
  have hr := (blk_row (n := 32) hb (hmac_length _ _)).take (k := 4) (by omega)
  rw [bvs_take] at hr
  have h := hex_any (some ⟨g, 0, none⟩) 4 32 _ w hr (by omega)
  rw [hex_fox] at h
  exact h

set_option maxRecDepth 100000 in
set_option maxHeartbeats 1000000 in
theorem begun3_any (w : World) (hT : Tables w) :
    Calls Tryd.prog 6 #[] w fun e w' => e = .returned (.bool true) ∧ Below w.heap.size w w' := by
  have hzero' := zero_sum
  have hcv := fun (w : World) (C : Array Value) (n c : Nat) => Lib.run_convert_bytes_const (P := Tryd.prog) w 22 5 C n c Tryd.underlying22 Tryd.underlying5
  have HT := Lib.hid hT
  clear hT
  obtain ⟨res, hres⟩ : ∃ res, res = (bvs (hmac foxKey foxText)).toArray := ⟨_, rfl⟩
  have hr32 : res.size = 32 := by rw [hres, bvs_toArray_size, hmac_length]
  have hr1 : res.all (·.oneCell') = true := by rw [hres]; exact bvs_all' _
  have HRES := Lib.hid hres
  have HR32 := Lib.hid hr32
  have HR1 := Lib.hid hr1
  clear hres hr32 hr1
  go_enter Tryd.func6, Tryd.ntmps6
  have hcv2 := fun (W : World) (C1 : Array Value) (fr : Nat × Nat) (C : Array Value) (n c : Nat) => show (convert 22 22 (.slice (some ⟨W.heap.size + 1, 0, none⟩) n c)).run Tryd.prog ((W.alloc (.cells C1 5 fr)).alloc (.cells C 5)) = .ok (.slice (some ⟨W.heap.size + 1, 0, none⟩) n c) ((W.alloc (.cells C1 5 fr)).alloc (.cells C 5 (C.size, C.size + 1))) from by
    have h := hcv (W.alloc (.cells C1 5 fr)) C n c
    rw [World.size_alloc] at h
    exact h
  go_wp2_with fail
  refine (fox_sum w HT.out).mono ?_
  rintro e w3 ⟨rfl, hb3⟩
  rw [← HRES.out]
  have HB3 := Lib.hid hb3
  clear hb3
  go_wp2_with (first
    | (refine wpList_store_blk rfl 25 (.tmp 1) (.tmp 6) rfl w3.heap.size res rfl rfl 25 zeroSum (heap_alloc_new _ _) (by rw [HR32.out]; kernel_rfl) (by rw [HR32.out]; rfl) HR1.out ?_
       intro w4 G1 G2
       have HB4 : Hid (Below w.heap.size w w4) := below_only (HB3.out.alloc HB3.out.size _) (only_hid G2) HB3.out.size (Nat.le_trans HB3.out.size (by simp))))
  refine (fox_hex w4 w3.heap.size _ res HRES.out G1.out).mono ?_
  rintro e w5 ⟨rfl, hb5⟩
  have HB5 : Hid (Below w.heap.size w w5) := HB4.out.trans (hb5.mono HB4.out.size)
  have G5 : Hid (Blk w5 w3.heap.size 25 res) := (hb5.block _ (blk_lt G1.out)).trans G1.out
  clear hb5
  go_wp2_with fail
  refine (fox_check w5 w3.heap.size _ res HRES.out (HT.out.all HB5.out) G5.out).mono ?_
  rintro e w6 ⟨rfl, hb6⟩
  go_wp2_with fail
  go_ret
  exact ⟨rfl, HB5.out.trans (hb6.mono HB5.out.size)⟩
end Go.Proofs.YtllbdeniigakkaaDoor.Sha
