/-
  Texts one behind the other: DiskLeaf, DiskNew.
-/
import Derived.Lib.MinMax
import Derived.Lib.Hide
import Derived.Test.YtbljdcdcnnidkaaDoorG04
import Derived.Test.YtbljdcdcnnidkaaDoorG08
/-
  Proved: what roomOf, New, begin, newFile, isNameByte, isName, sectorsOf and partOf of package disk return.
-/
namespace Go.Proofs.YtbljdcdcnnidkaaDoor.Disk
open Go.RowKit Go.Maps
set_option linter.unusedVariables false
set_option linter.unusedSimpArgs false

def room (n : Int) : Int := min (max n 0) 4194304
theorem roomOf_any (n : Int) (w : World) : Calls Tryd.prog 22 #[.int .i64 n] w fun e w' => e = .returned (.int .i64 (room n)) ∧ w' = w := by
  go_enter Tryd.func22, Tryd.ntmps22
  go_wp2
  go_ret
  exact ⟨rfl, rfl⟩
theorem begin_nil (w : World) : Calls Tryd.prog 35 #[.pointer none] w fun e w' => e = .returned (.int .i64 1) ∧ w' = w := by
  go_enter Tryd.func35, Tryd.ntmps35
  go_wp2
  go_ret
  exact ⟨rfl, rfl⟩
def nameByte (c : UInt8) : Bool := (97 ≤ c.toNat && c.toNat ≤ 122) || (65 ≤ c.toNat && c.toNat ≤ 90) || (48 ≤ c.toNat && c.toNat ≤ 57) || c.toNat == 46
theorem isNameByte_any (c : UInt8) (w : World) : Calls Tryd.prog 52 #[.int .u8 (c.toNat : Int)] w fun e w' => e = .returned (.bool (nameByte c)) ∧ w' = w := by
  have hc : c.toNat < 256 := c.toNat_lt
  unfold nameByte
  generalize c.toNat = k at *
  go_enter Tryd.func52, Tryd.ntmps52
  go_wp2
  all_goals go_ret
  all_goals (refine ⟨congrArg (fun b => Ending.returned (Value.bool b)) ?_, rfl⟩; rw [Bool.eq_iff_iff]; simp; omega)
def sectors (a n : Nat) : Nat := if n = 0 then 0 else (a + n - 1) / 64 - a / 64 + 1
theorem sectorsOf_any (a n : Nat) (w : World) (ha : a ≤ 4194304) (hn : n ≤ 1099511627776) : Calls Tryd.prog 53 #[.int .i64 (a : Int), .int .i64 (n : Int)] w fun e w' => e = .returned (.int .i64 ((sectors a n : Nat) : Int)) ∧ w' = w := by
  by_cases h0 : n = 0
  · subst h0
    go_enter Tryd.func53, Tryd.ntmps53
    go_wp2
    go_ret
    exact ⟨rfl, rfl⟩
  · obtain ⟨S, hS⟩ : ∃ S, S = sectors a n := ⟨_, rfl⟩
    have hS' : Hid ((S : Int) = ((a : Int) + (n : Int) - 1) / 64 - (a : Int) / 64 + 1) := by
      show _ = _
      rw [hS, sectors, if_neg h0]
      omega
    rw [← hS]
    clear hS
    have h1 : ((n : Int) == 0) = false := by simp; omega
    go_enter Tryd.func53, Tryd.ntmps53
    go_wp2
    go_ret
    exact ⟨by rw [hS'.out]; rfl, rfl⟩
def partOf (i : Nat) (keep : List Bool) (torn : Int) : Nat := if (i : Int) = torn then 32 else if keep.getD i false = true then 64 else 0
def lvs (l : List Bool) : List Value := l.map Value.bool
theorem partOf_any (i : Nat) (A : Option Addr) (n c : Nat) (keep : List Bool) (torn : Int) (B : Nat) (w : World) (hR : Row w B A n (lvs keep)) :
    Calls Tryd.prog 32 #[.int .i64 (i : Int), .slice A n c, .int .i64 torn] w fun e w' => e = .returned (.int .i64 ((partOf i keep torn : Nat) : Int)) ∧ w' = w := by
  have hl : keep.length = n := by have := hR.1; rwa [lvs, List.length_map] at this
  by_cases ht : (i : Int) = torn
  · subst ht
    have hp : partOf i keep (i : Int) = 32 := if_pos rfl
    rw [hp]
    clear hR hp
    go_enter Tryd.func32, Tryd.ntmps32
    go_wp2
    go_ret
    exact ⟨rfl, rfl⟩
  · have h1 : ((i : Int) == torn) = false := by simp [ht]
    by_cases hin : i < n
    · obtain ⟨b, o, rfl, _, hcell⟩ := hR.2 (by omega)
      have hb := hcell i (.bool (keep.getD i false)) (by rw [lvs, List.getElem?_map, List.getD_eq_getElem?_getD, List.getElem?_eq_getElem (by omega)]; rfl)
      have hp : partOf i keep torn = if keep.getD i false = true then 64 else 0 := if_neg ht
      rw [hp]
      generalize keep.getD i false = x at *
      clear hR hp hcell
      cases x
      · go_enter Tryd.func32, Tryd.ntmps32
        go_wp2
        go_ret
        exact ⟨rfl, rfl⟩
      · go_enter Tryd.func32, Tryd.ntmps32
        go_wp2
        go_ret
        exact ⟨rfl, rfl⟩
    · have hp : partOf i keep torn = 0 := by
        rw [partOf, if_neg ht, List.getD_eq_getElem?_getD, List.getElem?_eq_none (by omega)]
        rfl
      rw [hp]
      clear hR hp
      go_enter Tryd.func32, Tryd.ntmps32
      go_wp2
      go_ret
      exact ⟨rfl, rfl⟩
/-- A name that may be. -/
def goodName (n : List UInt8) : Bool := decide (0 < n.length) && decide (n.length ≤ 32) && n.all nameByte
theorem index_string_at {P : Program} {T : TypeId} (ht : P.underlying T = some .string) (s : ByteArray) (k : IntKind) (v : Int) (i : Nat) (hv : v = (i : Int)) (hi : i < s.size) (w : World) :
    (Instr.index T (.string s) (.int k v)).run P w = .ok (.int .u8 ((s.data.toList.getD i 0).toNat : Int)) w := by
  subst hv
  rw [run_index_string w T s k (i : Int) ht, dif_pos ⟨by omega, by omega⟩]
  congr 3
  rw [List.getD_eq_getElem?_getD, Array.getElem?_toList, Array.getElem?_eq_getElem (by simpa using hi)]
  rfl
theorem isName_any (s : ByteArray) (w : World) (hs : s.size ≤ maxLen) : Calls Tryd.prog 36 #[.string s] w fun e w' => e = .returned (.bool (goodName s.data.toList)) ∧ w' = w := by
  unfold maxLen at hs
  have hl : s.data.toList.length = s.size := by simp
  have hl0 := hl
  unfold goodName
  rw [hl]
  generalize hL : s.data.toList = L at *
  clear hl
  by_cases h0 : s.size = 0
  · have h1 : ((s.size : Int) == 0) = true := by simp [h0]
    go_enter Tryd.func36, Tryd.ntmps36
    go_wp2
    go_ret
    exact ⟨by simp [h0], rfl⟩
  · have h1 : ((s.size : Int) == 0) = false := beq_eq_false_iff_ne.2 (by omega)
    by_cases h32 : 32 < s.size
    · have HD : Hid (decide (s.size ≤ 32) = false) := decide_eq_false (by omega)
      go_enter Tryd.func36, Tryd.ntmps36
      go_wp2
      go_ret
      exact ⟨by rw [HD.out]; simp, rfl⟩
    · rw [decide_eq_true (by omega : 0 < s.size), decide_eq_true (by omega : s.size ≤ 32)]
      have hidx := fun (i : Nat) (hi : i < s.size) (w : World) => index_string_at Tryd.underlying9 s .i64 (i : Int) i rfl hi w
      rw [hL] at hidx
      clear h0
      go_enter Tryd.func36, Tryd.ntmps36
      go_wp2
      go_loopw [14] (fun v wr => ∃ k : Nat, k ≤ s.size ∧ v = .int .i64 k ∧ wr = w ∧ (L.take k).all nameByte = true) (fun v _ => s.size - (RowKit.intOf v).toNat)
      case atStart => exact ⟨0, Nat.zero_le _, rfl, rfl, by simp⟩
      case round =>
        obtain ⟨k, hk, rfl, rfl, hall⟩ := hrel
        by_cases hlt : k < s.size
        · have hi := hidx k hlt wr
          have cB := isNameByte_any (L.getD k 0)
          have hsn : L.take (k + 1) = L.take k ++ [L.getD k 0] := getD_snoc L k (by omega)
          have hall' : L.all nameByte = true → nameByte (L.getD k 0) = true := fun h => List.all_eq_true.1 h _ (by rw [List.getD_eq_getElem?_getD, List.getElem?_eq_getElem (by omega)]; exact List.getElem_mem _)
          generalize L.getD k 0 = ch at *
          cases hx : nameByte ch
          · have hno : L.all nameByte = false := by
              cases h : L.all nameByte
              · rfl
              · rw [hall' h] at hx; cases hx
            rw [hx] at cB
            have HN := Lib.hid hno
            clear hsn hall' hx hall hidx hno
            go_wp2_with (go_at_call 52; refine (cB _).mono ?_; rintro e w' ⟨rfl, rfl⟩)
            go_ret
            exact ⟨by rw [HN.out]; rfl, rfl⟩
          · rw [hx] at cB
            have HN : Hid ((L.take (k + 1)).all nameByte = true) := by show _ = _; rw [hsn, List.all_append, hall]; simp [hx]
            clear hsn hall' hx hall hidx
            go_wp2_with (go_at_call 52; refine (cB _).mono ?_; rintro e w' ⟨rfl, rfl⟩)
            go_roundw
            case rel => exact ⟨k + 1, by omega, by go_num, trivial, HN.out⟩
            case measure => simp [RowKit.intOf]; omega
        · obtain rfl : k = s.size := by omega
          rw [List.take_of_length_le (by omega)] at hall
          have HN := Lib.hid hall
          clear hall hidx
          go_wp2
          go_ret
          exact ⟨by rw [HN.out]; rfl, rfl⟩
end Go.Proofs.YtbljdcdcnnidkaaDoor.Disk
/-
  Proved: what New, newFile, apply, begin and the plain getters of package disk do.
-/
namespace Go.Proofs.YtbljdcdcnnidkaaDoor.Disk
open Go.RowKit Go.Maps
set_option linter.unusedVariables false
set_option linter.unusedSimpArgs false

theorem zeroFS (w : World) : (zeroValue 55).run Tryd.prog w = .ok (.agg #[.int .i64 0, .map none, .map none, .slice none 0 0, .int .i64 0, .int .i64 0, .bool false, .int .i64 0]) w := by kernel_rfl
theorem zeroFile (w : World) : (zeroValue 71).run Tryd.prog w = .ok (.agg #[.slice none 0 0, .int .i64 0, .map none]) w := by kernel_rfl
theorem zeroChg (w : World) : (zeroValue 65).run Tryd.prog w = .ok (.agg #[.string ⟨#[]⟩, .string ⟨#[]⟩, .pointer none]) w := by kernel_rfl

theorem newFile_any (A : Option Addr) (n c : Nat) (w : World) :
    Calls Tryd.prog 38 #[.slice A n c] w fun e w' => e = .returned (.pointer (some ⟨w.heap.size + 1, 0, none⟩)) ∧ w' = (w.alloc (.map #[] 0)).alloc (.cells #[.slice A n c, .int .i64 (n : Int), .map (some w.heap.size)] 71) := by
  have hmm := @run_makeMap Tryd.prog
  have hz := zeroFile
  go_enter Tryd.func38, Tryd.ntmps38
  go_wp2
  go_ret
  exact ⟨by simp, rfl⟩
theorem new_raw (n : Int) (w : World) :
    Calls Tryd.prog 9 #[.int .i64 n] w fun e w' => e = .returned (.pointer (some ⟨w.heap.size + 2, 0, none⟩)) ∧
      w' = ((w.alloc (.map #[] 0)).alloc (.map #[] 0)).alloc (.cells #[.int .i64 (room n), .map (some w.heap.size), .map (some (w.heap.size + 1)), .slice none 0 0, .int .i64 0, .int .i64 0, .bool false, .int .i64 0] 55) := by
  have hmm := @run_makeMap Tryd.prog
  have hz := zeroFS
  have cR := roomOf_any n
  go_enter Tryd.func9, Tryd.ntmps9
  go_wp2_with (go_at_call 22; refine (cR _).mono ?_; rintro e w' ⟨rfl, rfl⟩)
  go_ret
  exact ⟨by simp, by simp⟩

/-- The fields of a disk at block f. -/
def fsCells (d : Dk) (nb sb : Nat) (wv : Value) : Array Value := #[.int .i64 d.room, .map (some nb), .map (some sb), wv, .int .i64 d.calls, .int .i64 d.reads, .bool d.failing, .int .i64 d.others]
/-- What begin makes of a disk. -/
def Dk.begin (d : Dk) : Dk :=
  if d.failing = false then { d with calls := d.calls + 1 }
  else if 0 < d.others then { d with calls := d.calls + 1, others := d.others - 1 }
  else { d with calls := d.calls + 1, failing := false }
def Dk.err (d : Dk) : Int := if d.failing = true ∧ d.others ≤ 0 then 3 else 0
theorem begin_raw (f nb sb : Nat) (wv : Value) (d : Dk) (K : Nat) (w : World) (hok : d.Ok K) (hb : Blk w f 55 (fsCells d nb sb wv)) :
    Calls Tryd.prog 35 #[.pointer (some ⟨f, 0, none⟩)] w fun e w' => e = .returned (.int .i64 d.err) ∧ Blk w' f 55 (fsCells d.begin nb sb wv) ∧ w.grownBy w' (some f) := by
  obtain ⟨rm, N, S, wait, calls, reads, failing, others, fl⟩ := d
  have hc := hok.calls
  have ho := hok.others
  have hK := hok.big
  simp only at hc ho
  have h4 : w.cell? ⟨f, 4, none⟩ = some (.int .i64 calls) := hb.cell 4
  have h6 : w.cell? ⟨f, 6, none⟩ = some (.bool failing) := hb.cell 6
  have h7 : w.cell? ⟨f, 7, none⟩ = some (.int .i64 others) := hb.cell 7
  have f4 := hb.free 4
  have f6 := hb.free 6
  have f7 := hb.free 7
  have HB := Lib.hid hb
  clear hb hok
  cases failing
  · have he : Dk.err ⟨rm, N, S, wait, calls, reads, false, others, fl⟩ = 0 := rfl
    rw [he]
    clear he
    go_enter Tryd.func35, Tryd.ntmps35
    go_wp2
    go_ret
    exact ⟨rfl, HB.out.put 4 _, only_setCell _ _ _⟩
  · by_cases h0 : 0 < others
    · have he : Dk.err ⟨rm, N, S, wait, calls, reads, true, others, fl⟩ = 0 := if_neg (by simp; omega)
      have hx : Hid (Dk.begin ⟨rm, N, S, wait, calls, reads, true, others, fl⟩ = ⟨rm, N, S, wait, calls + 1, reads, true, others - 1, fl⟩) := by show _ = _; simp [Dk.begin, h0]
      rw [he]
      clear he
      go_enter Tryd.func35, Tryd.ntmps35
      go_wp2
      go_ret
      exact ⟨rfl, by rw [hx.out]; exact (HB.out.put 4 _).put 7 _, only_trans (only_setCell _ _ _) (only_setCell _ _ _)⟩
    · have he : Dk.err ⟨rm, N, S, wait, calls, reads, true, others, fl⟩ = 3 := if_pos ⟨rfl, by show others ≤ 0; omega⟩
      have hx : Hid (Dk.begin ⟨rm, N, S, wait, calls, reads, true, others, fl⟩ = ⟨rm, N, S, wait, calls + 1, reads, false, others, fl⟩) := by show _ = _; simp [Dk.begin, h0]
      rw [he]
      clear he
      go_enter Tryd.func35, Tryd.ntmps35
      go_wp2
      go_ret
      exact ⟨rfl, by rw [hx.out]; exact (HB.out.put 4 _).put 6 _, only_trans (only_setCell _ _ _) (only_setCell _ _ _)⟩

/-- A change of a directory is made. -/
theorem keyS {s : ByteArray} (hs : s.size ≤ maxLen) : keyOf Tryd.prog 9 (.string s) = some (.string s.data.toList) := WideMaps.keyOf_string_mk Tryd.underlying9 hs
theorem blk_kept {w w' : World} {g : Nat} {t : TypeId} {cs : Array Value} {row : Option Nat} (h : Blk w g t cs) (hg : w.grownBy w' row) (hne : some g ≠ row) : Blk w' g t cs := (hg.block g (blk_lt' h) hne).trans h
set_option maxRecDepth 100000 in
theorem apply_any (nb n : Nat) (N : Dir) (c : Chg) (w : World) (hown : w.ownsMap Tryd.prog 9 held nb n (dirMap N)) (hn : n < maxLen) (h1 : c.gone.size ≤ maxLen) (h2 : c.name.size ≤ maxLen) :
    Calls Tryd.prog 30 #[.map (some nb), .agg #[.string c.gone, .string c.name, c.ptr]] w fun e w' => e = .returned undef ∧ w'.ownsMap Tryd.prog 9 held nb (n + 1) (dirMap (c.on N)) ∧ w.grownBy w' (some nb) := by
  obtain ⟨gone, name, file⟩ := c
  have hz := zeroChg
  have hlt := hown.lt
  have hk1 := keyS h1
  have hk2 := keyS h2
  cases file with
  | none =>
    show Calls _ _ #[_, .agg #[.string gone, .string name, .pointer none]] _ _
    have ho0 := hown.alloc (.cells #[.string gone, .string name, .pointer none] 65)
    have hb0 := Blk.new w 65 #[.string gone, .string name, .pointer none]
    have hg0 := World.grownBy_alloc w (.cells #[.string gone, .string name, .pointer none] 65) none
    have c0 := hb0.cell 0
    have HB := Lib.hid hb0
    have HG := Lib.hid hg0
    clear hb0 hg0
    go_enter Tryd.func30, Tryd.ntmps30
    go_wp2_with (at_delete; refine wpList_delete_own _ rfl _ _ 52 9 rfl 63 lawS Tryd.underlying52 held nb n _ rfl ho0 _ _ rfl hk1 ?_; intro w1 hown1 hturn1; have c2 := (blk_kept HB.out hturn1.grown (by simp; omega)).cell 2)
    go_end0
    refine ⟨rfl, ?_, only_trans (HG.out.but _) hturn1.grown⟩
    rw [dirMap_del] at hown1
    exact hown1.mono (by omega)
  | some g =>
    show Calls _ _ #[_, .agg #[.string gone, .string name, .pointer (some ⟨g, 0, none⟩)]] _ _
    have ho0 := hown.alloc (.cells #[.string gone, .string name, .pointer (some ⟨g, 0, none⟩)] 65)
    have hb0 := Blk.new w 65 #[.string gone, .string name, .pointer (some ⟨g, 0, none⟩)]
    have hg0 := World.grownBy_alloc w (.cells #[.string gone, .string name, .pointer (some ⟨g, 0, none⟩)] 65) none
    have c0 := hb0.cell 0
    have HB := Lib.hid hb0
    have HG := Lib.hid hg0
    clear hb0 hg0
    go_enter Tryd.func30, Tryd.ntmps30
    go_wp2_with (first
      | (at_delete; refine wpList_delete_own _ rfl _ _ 52 9 rfl 63 lawS Tryd.underlying52 held nb n _ rfl ho0 _ _ rfl hk1 ?_; intro w1 hown1 hturn1; have c2 := (blk_kept HB.out hturn1.grown (by simp; omega)).cell 2; have c1 := (blk_kept HB.out hturn1.grown (by simp; omega)).cell 1)
      | (at_mapUpdate; refine wpList_mapUpdate_own _ rfl _ _ _ 52 rfl 9 63 lawS Tryd.underlying52 held nb n _ rfl hown1 hn _ _ _ rfl rfl hk2 _ _ rfl ?_; intro w2 hown2 hgrow2))
    go_end0
    refine ⟨rfl, ?_, only_trans (only_trans (HG.out.but _) hturn1.grown) hgrow2⟩
    rw [dirMap_del] at hown2
    have hown3 : w2.ownsMap Tryd.prog 9 held nb (n + 1) ((dirMap (ddel gone.data.toList N)).put (.string name.data.toList) (.held (fp g))) := hown2
    rw [dirMap_put] at hown3
    exact hown3

/-! The plain getters, and those of no disk. -/
theorem fail_raw (f nb sb : Nat) (wv : Value) (d : Dk) (n : Int) (w : World) (hb : Blk w f 55 (fsCells d nb sb wv)) :
    Calls Tryd.prog 18 #[.pointer (some ⟨f, 0, none⟩), .int .i64 n] w fun e w' => e = .returned undef ∧ Blk w' f 55 (fsCells { d with failing := decide (0 ≤ n), others := max n 0 } nb sb wv) ∧ w.grownBy w' (some f) := by
  have h6 : w.cell? ⟨f, 6, none⟩ = some (.bool d.failing) := hb.cell 6
  have h7 : w.cell? ⟨f, 7, none⟩ = some (.int .i64 d.others) := hb.cell 7
  have f6 := hb.free 6
  have f7 := hb.free 7
  have HB := Lib.hid hb
  clear hb
  go_enter Tryd.func18, Tryd.ntmps18
  go_wp2
  go_end0
  exact ⟨rfl, (HB.out.put 6 _).put 7 _, only_trans (only_setCell _ _ _) (only_setCell _ _ _)⟩
theorem create_nil (s : ByteArray) (w : World) : Calls Tryd.prog 19 #[.pointer none, .string s] w fun e w' => e = .returned (.int .i64 1) ∧ w' = w := by
  go_enter Tryd.func19, Tryd.ntmps19
  go_wp2_with (go_at_call 35; refine (begin_nil _).mono ?_; rintro e w' ⟨rfl, rfl⟩)
  go_ret
  exact ⟨rfl, rfl⟩
theorem write_nil (s : ByteArray) (at_ : Int) (A : Option Addr) (n c : Nat) (w : World) : Calls Tryd.prog 21 #[.pointer none, .string s, .int .i64 at_, .slice A n c] w fun e w' => e = .returned (.int .i64 1) ∧ w' = w := by
  go_enter Tryd.func21, Tryd.ntmps21
  go_wp2_with (go_at_call 35; refine (begin_nil _).mono ?_; rintro e w' ⟨rfl, rfl⟩)
  go_ret
  exact ⟨rfl, rfl⟩
theorem sync_nil (s : ByteArray) (w : World) : Calls Tryd.prog 28 #[.pointer none, .string s] w fun e w' => e = .returned (.int .i64 1) ∧ w' = w := by
  go_enter Tryd.func28, Tryd.ntmps28
  go_wp2_with (go_at_call 35; refine (begin_nil _).mono ?_; rintro e w' ⟨rfl, rfl⟩)
  go_ret
  exact ⟨rfl, rfl⟩
theorem syncDir_nil (w : World) : Calls Tryd.prog 26 #[.pointer none] w fun e w' => e = .returned (.int .i64 1) ∧ w' = w := by
  go_enter Tryd.func26, Tryd.ntmps26
  go_wp2_with (go_at_call 35; refine (begin_nil _).mono ?_; rintro e w' ⟨rfl, rfl⟩)
  go_ret
  exact ⟨rfl, rfl⟩
theorem rename_nil (s u : ByteArray) (w : World) : Calls Tryd.prog 25 #[.pointer none, .string s, .string u] w fun e w' => e = .returned (.int .i64 1) ∧ w' = w := by
  go_enter Tryd.func25, Tryd.ntmps25
  go_wp2_with (go_at_call 35; refine (begin_nil _).mono ?_; rintro e w' ⟨rfl, rfl⟩)
  go_ret
  exact ⟨rfl, rfl⟩
theorem read_nil (s : ByteArray) (a n : Int) (w : World) : Calls Tryd.prog 20 #[.pointer none, .string s, .int .i64 a, .int .i64 n] w fun e w' => e = .returned (.tuple #[.slice none 0 0, .int .i64 1]) ∧ w' = w := by
  go_enter Tryd.func20, Tryd.ntmps20
  go_wp2
  go_ret2
  exact ⟨rfl, rfl⟩
theorem size_nil (s : ByteArray) (w : World) : Calls Tryd.prog 17 #[.pointer none, .string s] w fun e w' => e = .returned (.int .i64 (-1)) ∧ w' = w := by
  go_enter Tryd.func17, Tryd.ntmps17
  go_wp2
  go_ret
  exact ⟨rfl, rfl⟩
theorem used_nil (w : World) : Calls Tryd.prog 40 #[.pointer none] w fun e w' => e = .returned (.int .i64 0) ∧ w' = w := by
  go_enter Tryd.func40, Tryd.ntmps40
  go_wp2
  go_ret
  exact ⟨rfl, rfl⟩
theorem dirty_nil (w : World) : Calls Tryd.prog 51 #[.pointer none] w fun e w' => e = .returned (.int .i64 0) ∧ w' = w := by
  go_enter Tryd.func51, Tryd.ntmps51
  go_wp2
  go_ret
  exact ⟨rfl, rfl⟩
theorem fail_nil (n : Int) (w : World) : Calls Tryd.prog 18 #[.pointer none, .int .i64 n] w fun e w' => e = .returned undef ∧ w' = w := by
  go_enter Tryd.func18, Tryd.ntmps18
  go_wp2
  (try simp only [Exit.inBlock, Exit.then]); refine bodyPost_ret (results_none rfl _ _ _) rfl ?_
  exact ⟨rfl, rfl⟩
theorem crash_nil (n t : Int) (A : Option Addr) (k c : Nat) (w : World) : Calls Tryd.prog 13 #[.pointer none, .int .i64 n, .slice A k c, .int .i64 t] w fun e w' => e = .returned (.pointer none) ∧ w' = w := by
  go_enter Tryd.func13, Tryd.ntmps13
  go_wp2
  go_ret
  exact ⟨rfl, rfl⟩
end Go.Proofs.YtbljdcdcnnidkaaDoor.Disk
