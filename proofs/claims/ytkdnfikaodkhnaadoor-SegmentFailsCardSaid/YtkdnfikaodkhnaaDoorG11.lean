/-
  Texts one behind the other: DiskNew, AppendWhere.
-/
import Derived.ArgAppend
import Derived.Lib.Hide
import Derived.RegionTactic
import Derived.Test.YtkdnfikaodkhnaaDoorG03
import Derived.Test.YtkdnfikaodkhnaaDoorG05
import Derived.Test.YtkdnfikaodkhnaaDoorG10
/-
  Proved: what New, newFile, apply, begin and the plain getters of package disk do.
-/
namespace Go.Proofs.YtkdnfikaodkhnaaDoor.Disk
open Go.RowKit Go.Maps
set_option linter.unusedVariables false
set_option linter.unusedSimpArgs false

theorem zeroFS (w : World) : (zeroValue 67).run Tryd.prog w = .ok (.agg #[.int .i64 0, .map none, .map none, .slice none 0 0, .int .i64 0, .int .i64 0, .bool false, .int .i64 0]) w := by kernel_rfl
theorem zeroFile (w : World) : (zeroValue 90).run Tryd.prog w = .ok (.agg #[.slice none 0 0, .int .i64 0, .map none]) w := by kernel_rfl
theorem zeroChg (w : World) : (zeroValue 85).run Tryd.prog w = .ok (.agg #[.string ⟨#[]⟩, .string ⟨#[]⟩, .pointer none]) w := by kernel_rfl

theorem newFile_any (A : Option Addr) (n c : Nat) (w : World) :
    Calls Tryd.prog 40 #[.slice A n c] w fun e w' => e = .returned (.pointer (some ⟨w.heap.size + 1, 0, none⟩)) ∧ w' = (w.alloc (.map #[] 0)).alloc (.cells #[.slice A n c, .int .i64 (n : Int), .map (some w.heap.size)] 90) := by
  have hmm := @run_makeMap Tryd.prog
  have hz := zeroFile
  go_enter Tryd.func40, Tryd.ntmps40
  go_wp2
  go_ret
  exact ⟨by simp, rfl⟩
theorem new_raw (n : Int) (w : World) :
    Calls Tryd.prog 8 #[.int .i64 n] w fun e w' => e = .returned (.pointer (some ⟨w.heap.size + 2, 0, none⟩)) ∧
      w' = ((w.alloc (.map #[] 0)).alloc (.map #[] 0)).alloc (.cells #[.int .i64 (room n), .map (some w.heap.size), .map (some (w.heap.size + 1)), .slice none 0 0, .int .i64 0, .int .i64 0, .bool false, .int .i64 0] 67) := by
  have hmm := @run_makeMap Tryd.prog
  have hz := zeroFS
  have cR := roomOf_any n
  go_enter Tryd.func8, Tryd.ntmps8
  go_wp2_with (go_at_call 27; refine (cR _).mono ?_; rintro e w' ⟨rfl, rfl⟩)
  go_ret
  exact ⟨by simp, by simp⟩

/-- The fields of a disk at block f. -/
def fsCells (d : Dk) (nb sb : Nat) (wv : Value) : Array Value := #[.int .i64 d.room, .map (some nb), .map (some sb), wv, .int .i64 d.calls, .int .i64 d.reads, .bool d.failing, .int .i64 d.others]
/-- What begin makes of a disk. -/
def Dk.begin (d : Dk) : Dk :=
  if d.failing = false then { d with calls := d.calls + 1 }
  else if 0 < d.others then { d with calls := d.calls + 1, others := d.others - 1 }
  else { d with calls := d.calls + 1, failing := false }
def Dk.err (d : Dk) : Int := if d.failing = true ∧ d.others ≤ 0 then 3 else 0
theorem begin_raw (f nb sb : Nat) (wv : Value) (d : Dk) (K : Nat) (w : World) (hok : d.Ok K) (hb : Blk w f 67 (fsCells d nb sb wv)) :
    Calls Tryd.prog 37 #[.pointer (some ⟨f, 0, none⟩)] w fun e w' => e = .returned (.int .i64 d.err) ∧ Blk w' f 67 (fsCells d.begin nb sb wv) ∧ w.grownBy w' (some f) := by
  obtain ⟨rm, N, S, wait, calls, reads, failing, others, fl⟩ := d
  have hc := hok.calls
  have ho := hok.others
  have hK := hok.big
  simp only at hc ho
  have h4 : w.cell? ⟨f, 4, none⟩ = some (.int .i64 calls) := hb.cell 4
  have h6 : w.cell? ⟨f, 6, none⟩ = some (.bool failing) := hb.cell 6
  have h7 : w.cell? ⟨f, 7, none⟩ = some (.int .i64 others) := hb.cell 7
  have f4 := hb.free 4
  have f6 := hb.free 6
  have f7 := hb.free 7
  have HB := Lib.hid hb
  clear hb hok
  cases failing
  · have he : Dk.err ⟨rm, N, S, wait, calls, reads, false, others, fl⟩ = 0 := rfl
    rw [he]
    clear he
    go_enter Tryd.func37, Tryd.ntmps37
    go_wp2
    go_ret
    exact ⟨rfl, HB.out.put 4 _, only_setCell _ _ _⟩
  · by_cases h0 : 0 < others
    · have he : Dk.err ⟨rm, N, S, wait, calls, reads, true, others, fl⟩ = 0 := if_neg (by simp; omega)
      have hx : Hid (Dk.begin ⟨rm, N, S, wait, calls, reads, true, others, fl⟩ = ⟨rm, N, S, wait, calls + 1, reads, true, others - 1, fl⟩) := by show _ = _; simp [Dk.begin, h0]
      rw [he]
      clear he
      go_enter Tryd.func37, Tryd.ntmps37
      go_wp2
      go_ret
      exact ⟨rfl, by rw [hx.out]; exact (HB.out.put 4 _).put 7 _, only_trans (only_setCell _ _ _) (only_setCell _ _ _)⟩
    · have he : Dk.err ⟨rm, N, S, wait, calls, reads, true, others, fl⟩ = 3 := if_pos ⟨rfl, by show others ≤ 0; omega⟩
      have hx : Hid (Dk.begin ⟨rm, N, S, wait, calls, reads, true, others, fl⟩ = ⟨rm, N, S, wait, calls + 1, reads, false, others, fl⟩) := by show _ = _; simp [Dk.begin, h0]
      rw [he]
      clear he
      go_enter Tryd.func37, Tryd.ntmps37
      go_wp2
      go_ret
      exact ⟨rfl, by rw [hx.out]; exact (HB.out.put 4 _).put 6 _, only_trans (only_setCell _ _ _) (only_setCell _ _ _)⟩

/-- A change of a directory is made. -/
theorem keyS {s : ByteArray} (hs : s.size ≤ maxLen) : keyOf Tryd.prog 9 (.string s) = some (.string s.data.toList) := WideMaps.keyOf_string_mk Tryd.underlying9 hs
theorem blk_kept {w w' : World} {g : Nat} {t : TypeId} {cs : Array Value} {row : Option Nat} (h : Blk w g t cs) (hg : w.grownBy w' row) (hne : some g ≠ row) : Blk w' g t cs := (hg.block g (blk_lt' h) hne).trans h
set_option maxRecDepth 100000 in
theorem apply_any (nb n : Nat) (N : Dir) (c : Chg) (w : World) (hown : w.ownsMap Tryd.prog 9 held nb n (dirMap N)) (hn : n < maxLen) (h1 : c.gone.size ≤ maxLen) (h2 : c.name.size ≤ maxLen) :
    Calls Tryd.prog 52 #[.map (some nb), .agg #[.string c.gone, .string c.name, c.ptr]] w fun e w' => e = .returned undef ∧ w'.ownsMap Tryd.prog 9 held nb (n + 1) (dirMap (c.on N)) ∧ w.grownBy w' (some nb) := by
  obtain ⟨gone, name, file⟩ := c
  have hz := zeroChg
  have hlt := hown.lt
  have hk1 := keyS h1
  have hk2 := keyS h2
  cases file with
  | none =>
    show Calls _ _ #[_, .agg #[.string gone, .string name, .pointer none]] _ _
    have ho0 := hown.alloc (.cells #[.string gone, .string name, .pointer none] 85)
    have hb0 := Blk.new w 85 #[.string gone, .string name, .pointer none]
    have hg0 := World.grownBy_alloc w (.cells #[.string gone, .string name, .pointer none] 85) none
    have c0 := hb0.cell 0
    have HB := Lib.hid hb0
    have HG := Lib.hid hg0
    clear hb0 hg0
    go_enter Tryd.func52, Tryd.ntmps52
    go_wp2_with (at_delete; refine wpList_delete_own _ rfl _ _ 64 9 rfl 81 lawS Tryd.underlying64 held nb n _ rfl ho0 _ _ rfl hk1 ?_; intro w1 hown1 hturn1; have c2 := (blk_kept HB.out hturn1.grown (by simp; omega)).cell 2)
    go_end0
    refine ⟨rfl, ?_, only_trans (HG.out.but _) hturn1.grown⟩
    rw [dirMap_del] at hown1
    exact hown1.mono (by omega)
  | some g =>
    show Calls _ _ #[_, .agg #[.string gone, .string name, .pointer (some ⟨g, 0, none⟩)]] _ _
    have ho0 := hown.alloc (.cells #[.string gone, .string name, .pointer (some ⟨g, 0, none⟩)] 85)
    have hb0 := Blk.new w 85 #[.string gone, .string name, .pointer (some ⟨g, 0, none⟩)]
    have hg0 := World.grownBy_alloc w (.cells #[.string gone, .string name, .pointer (some ⟨g, 0, none⟩)] 85) none
    have c0 := hb0.cell 0
    have HB := Lib.hid hb0
    have HG := Lib.hid hg0
    clear hb0 hg0
    go_enter Tryd.func52, Tryd.ntmps52
    go_wp2_with (first
      | (at_delete; refine wpList_delete_own _ rfl _ _ 64 9 rfl 81 lawS Tryd.underlying64 held nb n _ rfl ho0 _ _ rfl hk1 ?_; intro w1 hown1 hturn1; have c2 := (blk_kept HB.out hturn1.grown (by simp; omega)).cell 2; have c1 := (blk_kept HB.out hturn1.grown (by simp; omega)).cell 1)
      | (at_mapUpdate; refine wpList_mapUpdate_own _ rfl _ _ _ 64 rfl 9 81 lawS Tryd.underlying64 held nb n _ rfl hown1 hn _ _ _ rfl rfl hk2 _ _ rfl ?_; intro w2 hown2 hgrow2))
    go_end0
    refine ⟨rfl, ?_, only_trans (only_trans (HG.out.but _) hturn1.grown) hgrow2⟩
    rw [dirMap_del] at hown2
    have hown3 : w2.ownsMap Tryd.prog 9 held nb (n + 1) ((dirMap (ddel gone.data.toList N)).put (.string name.data.toList) (.held (fp g))) := hown2
    rw [dirMap_put] at hown3
    exact hown3

/-! The plain getters, and those of no disk. -/
theorem fail_raw (f nb sb : Nat) (wv : Value) (d : Dk) (n : Int) (w : World) (hb : Blk w f 67 (fsCells d nb sb wv)) :
    Calls Tryd.prog 24 #[.pointer (some ⟨f, 0, none⟩), .int .i64 n] w fun e w' => e = .returned undef ∧ Blk w' f 67 (fsCells { d with failing := decide (0 ≤ n), others := max n 0 } nb sb wv) ∧ w.grownBy w' (some f) := by
  have h6 : w.cell? ⟨f, 6, none⟩ = some (.bool d.failing) := hb.cell 6
  have h7 : w.cell? ⟨f, 7, none⟩ = some (.int .i64 d.others) := hb.cell 7
  have f6 := hb.free 6
  have f7 := hb.free 7
  have HB := Lib.hid hb
  clear hb
  go_enter Tryd.func24, Tryd.ntmps24
  go_wp2
  go_end0
  exact ⟨rfl, (HB.out.put 6 _).put 7 _, only_trans (only_setCell _ _ _) (only_setCell _ _ _)⟩
theorem create_nil (s : ByteArray) (w : World) : Calls Tryd.prog 18 #[.pointer none, .string s] w fun e w' => e = .returned (.int .i64 1) ∧ w' = w := by
  go_enter Tryd.func18, Tryd.ntmps18
  go_wp2_with (go_at_call 37; refine (begin_nil _).mono ?_; rintro e w' ⟨rfl, rfl⟩)
  go_ret
  exact ⟨rfl, rfl⟩
theorem write_nil (s : ByteArray) (at_ : Int) (A : Option Addr) (n c : Nat) (w : World) : Calls Tryd.prog 20 #[.pointer none, .string s, .int .i64 at_, .slice A n c] w fun e w' => e = .returned (.int .i64 1) ∧ w' = w := by
  go_enter Tryd.func20, Tryd.ntmps20
  go_wp2_with (go_at_call 37; refine (begin_nil _).mono ?_; rintro e w' ⟨rfl, rfl⟩)
  go_ret
  exact ⟨rfl, rfl⟩
theorem sync_nil (s : ByteArray) (w : World) : Calls Tryd.prog 51 #[.pointer none, .string s] w fun e w' => e = .returned (.int .i64 1) ∧ w' = w := by
  go_enter Tryd.func51, Tryd.ntmps51
  go_wp2_with (go_at_call 37; refine (begin_nil _).mono ?_; rintro e w' ⟨rfl, rfl⟩)
  go_ret
  exact ⟨rfl, rfl⟩
theorem syncDir_nil (w : World) : Calls Tryd.prog 29 #[.pointer none] w fun e w' => e = .returned (.int .i64 1) ∧ w' = w := by
  go_enter Tryd.func29, Tryd.ntmps29
  go_wp2_with (go_at_call 37; refine (begin_nil _).mono ?_; rintro e w' ⟨rfl, rfl⟩)
  go_ret
  exact ⟨rfl, rfl⟩
theorem read_nil (s : ByteArray) (a n : Int) (w : World) : Calls Tryd.prog 67 #[.pointer none, .string s, .int .i64 a, .int .i64 n] w fun e w' => e = .returned (.tuple #[.slice none 0 0, .int .i64 1]) ∧ w' = w := by
  go_enter Tryd.func67, Tryd.ntmps67
  go_wp2
  go_ret2
  exact ⟨rfl, rfl⟩
theorem size_nil (s : ByteArray) (w : World) : Calls Tryd.prog 28 #[.pointer none, .string s] w fun e w' => e = .returned (.int .i64 (-1)) ∧ w' = w := by
  go_enter Tryd.func28, Tryd.ntmps28
  go_wp2
  go_ret
  exact ⟨rfl, rfl⟩
theorem used_nil (w : World) : Calls Tryd.prog 43 #[.pointer none] w fun e w' => e = .returned (.int .i64 0) ∧ w' = w := by
  go_enter Tryd.func43, Tryd.ntmps43
  go_wp2
  go_ret
  exact ⟨rfl, rfl⟩
theorem fail_nil (n : Int) (w : World) : Calls Tryd.prog 24 #[.pointer none, .int .i64 n] w fun e w' => e = .returned undef ∧ w' = w := by
  go_enter Tryd.func24, Tryd.ntmps24
  go_wp2
  (try simp only [Exit.inBlock, Exit.then]); refine bodyPost_ret (results_none rfl _ _ _) rfl ?_
  exact ⟨rfl, rfl⟩
end Go.Proofs.YtkdnfikaodkhnaaDoor.Disk
/-
  Proved: appends onto a row of the call's own: the row behind it lies where it lay, or in a new block.
  Conditions: the lengths together are at most 2 to the 46th.
-/
namespace Go.Proofs.YtkdnfikaodkhnaaDoor
open Go.RowKit
set_option linter.unusedVariables false
set_option linter.unusedSimpArgs false
variable {P : Program}

/-- Where the row behind an append lies. -/
def Lies (w : World) (v v' : Value) : Prop := v'.ownBlock = v.ownBlock ∨ ∀ b, v'.ownBlock = some b → w.heap.size ≤ b
theorem run_append_where (w : World) (base : Nat) (t ty e : TypeId) (z : Value) (size bytes : Nat) (ht : P.underlying t = some (.slice e)) (hinfo : (P.info? e).map (fun i => (i.zero, i.size, i.bytes)) = some (some z, size, bytes)) (hzs : z.cells.size = size) (hsz : 0 < size)
    (v : Value) (n : Nat) (xs : List Value) (hown : w.ownsRow base e size v n xs)
    (a : Addr) (m c : Nat) (news : List Value) (hl : news.length = m * size) (hnews : ∀ j u, news[j]? = some u → w.cell? (a.add j) = some u) (h1 : ∀ u ∈ news, u.oneCell' = true)
    (h63 : n + m ≤ maxLen) (hbytes : (n + m) * bytes ≤ 140737488355328) (hbase : base ≤ w.heap.size) :
    ∃ v' w', (Builtin.append_ #[t, t] ty #[v, .slice (some a) m c]).run P w = .ok v' w' ∧ w'.ownsRow base e size v' (n + m) (xs ++ news) ∧ w.grownBy w' v.ownBlock ∧ Lies w v v' := by
  obtain ⟨i, hi, hzz⟩ := Option.map_eq_some_iff.1 hinfo
  simp only [Prod.mk.injEq] at hzz
  obtain ⟨hz, hsize, hby⟩ := hzz
  obtain ⟨v', w', hr, h2, h3, _⟩ := run_append_own (P := P) w base t ty e i z size bytes ht hi hz hsize hby hzs hsz v n xs hown a m c news hl hnews h1 h63 hbytes hbase
  refine ⟨v', w', hr, h2, h3, ?_⟩
  rcases hown.2 with ⟨rfl, rfl⟩ | ⟨g, cap, cur, rfl, hbg, hg, hnc, hcm, hcs, htake⟩
  · have hown' : w.ownsRow w.heap.size e size (.slice none 0 0) 0 xs := ⟨hown.1, .inl ⟨rfl, rfl⟩⟩
    obtain ⟨v2, w2, hr2, h22, _, _⟩ := run_append_own (P := P) w w.heap.size t ty e i z size bytes ht hi hz hsize hby hzs hsz _ 0 xs hown' a m c news hl hnews h1 h63 hbytes (Nat.le_refl _)
    rw [hr] at hr2
    injection hr2 with e1 e2
    subst e1
    exact .inr fun b hb => (h22.lt b hb).1
  · by_cases hroom : n + m ≤ cap
    · have hfit : n * i.size + news.length ≤ cur.size := by rw [hsize, hl, hcs, ← Nat.add_mul]; exact Nat.mul_le_mul_right _ hroom
      have hr2 := run_append_room (P := P) w t ty e i ht hi g n cap cur hg a m c news (by rw [hsize]; exact hl) hnews h1 hroom hfit
      rw [hr] at hr2
      injection hr2 with e1 e2
      subst e1
      exact .inl rfl
    · have holds : ∀ j u, xs[j]? = some u → w.cell? ((⟨g, 0, none⟩ : Addr).add j) = some u := hown.cells (g := g) rfl
      obtain ⟨v2, w2, hr2, h22, _⟩ := run_append_arg_grows (P := P) w t ty e i z size bytes ht hi hz hsize hby hzs hsz ⟨g, 0, none⟩ n cap xs hown.1 holds a m c news hl hnews (by omega) h63 hbytes
      rw [hr] at hr2
      injection hr2 with e1 e2
      subst e1
      exact .inr fun b hb => (h22.lt b hb).1
theorem wp_append_where {o : Oper} {a : Act} {w : World} {K : Act → World → Prop} {Q : Exit → Act → World → Prop} (s x : Operand) (t : TypeId)
    (ho : o.op = .call { callee := .builtin .append, args := #[s, x], argTypes := #[t, t] })
    (base : Nat) (e : TypeId) (z : Value) (size bytes : Nat) (ht : P.underlying t = some (.slice e)) (hinfo : (P.info? e).map (fun i => (i.zero, i.size, i.bytes)) = some (some z, size, bytes)) (hzs : z.cells.size = size) (hsz : 0 < size)
    (v : Value) (n : Nat) (xs : List Value) (hs : a.eval s = v) (hown : w.ownsRow base e size v n xs)
    (ad : Addr) (m c : Nat) (news : List Value) (hx : a.eval x = .slice (some ad) m c) (hl : news.length = m * size) (hnews : ∀ j u, news[j]? = some u → w.cell? (ad.add j) = some u) (h1 : ∀ u ∈ news, u.oneCell' = true)
    (h63 : n + m ≤ maxLen) (hbytes : (n + m) * bytes ≤ 140737488355328) (hbase : base ≤ w.heap.size)
    (h : ∀ v' w', Hid (w'.ownsRow base e size v' (n + m) (xs ++ news)) → Hid (w.grownBy w' v.ownBlock) → Hid (Lies w v v') → K (a.put o.dst v') w') : o.wp P a w K Q := by
  obtain ⟨v', w', hr, h2, h3, h4⟩ := run_append_where (P := P) w base t o.type e z size bytes ht hinfo hzs hsz v n xs hown ad m c news hl hnews h1 h63 hbytes hbase
  unfold Oper.wp execOp
  simp only [ho, resolve, invoke, builtin, Sem.run_bind, Sem.run_pure, Result.andThen_ok, List.map_toArray, List.map_cons, List.map_nil, hs, hx, hr]
  exact h v' w' h2 h3 h4
theorem wpList_append_where {w : World} {ops : Array Oper} {rest : List Oper} {o : Oper} {a : Act} {Q : Exit → Act → World → Prop} (hgd : o.guard = none) (s x : Operand) (t : TypeId)
    (ho : o.op = .call { callee := .builtin .append, args := #[s, x], argTypes := #[t, t] })
    (base : Nat) (e : TypeId) (z : Value) (size bytes : Nat) (ht : P.underlying t = some (.slice e)) (hinfo : (P.info? e).map (fun i => (i.zero, i.size, i.bytes)) = some (some z, size, bytes)) (hzs : z.cells.size = size) (hsz : 0 < size)
    (v : Value) (n : Nat) (xs : List Value) (hs : a.eval s = v) (hown : w.ownsRow base e size v n xs)
    (ad : Addr) (m c : Nat) (news : List Value) (hx : a.eval x = .slice (some ad) m c) (hl : news.length = m * size) (hnews : ∀ j u, news[j]? = some u → w.cell? (ad.add j) = some u) (h1 : ∀ u ∈ news, u.oneCell' = true)
    (h63 : n + m ≤ maxLen) (hbytes : (n + m) * bytes ≤ 140737488355328) (hbase : base ≤ w.heap.size)
    (h : ∀ v' w', Hid (w'.ownsRow base e size v' (n + m) (xs ++ news)) → Hid (w.grownBy w' v.ownBlock) → Hid (Lies w v v') → wpList P ops Q rest (a.put o.dst v') w') : wpList P ops Q (o :: rest) a w :=
  wpList_plain hgd fun _ hK => wp_append_where s x t ho base e z size bytes ht hinfo hzs hsz v n xs hs hown ad m c news hx hl hnews h1 h63 hbytes hbase fun v' w' h2 h3 h4 => hK _ _ (h v' w' h2 h3 h4)
theorem step_append_where {ops : Array Oper} {o : Oper} {a : Act} {w : World} {K : Act → World → Prop} {Q : Exit → Act → World → Prop} {E : Prop} (hgd : o.guard = none) (s x : Operand) (t : TypeId)
    (ho : o.op = Op.call { callee := Callee.builtin Builtin.append, args := #[s, x], argTypes := #[t, t] })
    (base : Nat) (e : TypeId) (z : Value) (size bytes : Nat) (ht : P.underlying t = some (.slice e)) (hinfo : (P.info? e).map (fun i => (i.zero, i.size, i.bytes)) = some (some z, size, bytes)) (hzs : z.cells.size = size) (hsz : 0 < size)
    (v : Value) (n : Nat) (xs : List Value) (hs : a.eval s = v) (hown : w.ownsRow base e size v n xs)
    (ad : Addr) (m c : Nat) (news : List Value) (hx : a.eval x = .slice (some ad) m c) (hl : news.length = m * size) (hnews : ∀ j u, news[j]? = some u → w.cell? (ad.add j) = some u) (h1 : ∀ u ∈ news, u.oneCell' = true)
    (h63 : n + m ≤ maxLen) (hbytes : (n + m) * bytes ≤ 140737488355328) (hbase : base ≤ w.heap.size)
    (hK : ∀ v' w', Hid (w'.ownsRow base e size v' (n + m) (xs ++ news)) → Hid (w.grownBy w' v.ownBlock) → Hid (Lies w v v') → K (a.put o.dst v') w') :
    if Region.wanted o (yielded ops a.tmps) = true then Oper.wp P o a w K Q else E := by
  have hw : Region.wanted o (yielded ops a.tmps) = true := by simp [Region.wanted, hgd]
  rw [if_pos hw]
  exact wp_append_where s x t ho base e z size bytes ht hinfo hzs hsz v n xs hs hown ad m c news hx hl hnews h1 h63 hbytes hbase hK
/-- .. from any slice that reads as a list of one-cell values. -/
theorem run_append_from (w : World) (base : Nat) (t ty e : TypeId) (z : Value) (bytes : Nat) (ht : P.underlying t = some (.slice e)) (hinfo : (P.info? e).map (fun i => (i.zero, i.size, i.bytes)) = some (some z, 1, bytes)) (hzs : z.cells.size = 1)
    (v : Value) (n : Nat) (xs : List Value) (hown : w.ownsRow base e 1 v n xs)
    (B : Nat) (A : Option Addr) (m c : Nat) (news : List Value) (hr : Row w B A m news) (h1 : ∀ u ∈ news, u.oneCell' = true)
    (h63 : n + m ≤ maxLen) (hbytes : (n + m) * bytes ≤ 140737488355328) (hbase : base ≤ w.heap.size) :
    ∃ v' w', (Builtin.append_ #[t, t] ty #[v, .slice A m c]).run P w = .ok v' w' ∧ w'.ownsRow base e 1 v' (n + m) (xs ++ news) ∧ w.grownBy w' v.ownBlock ∧ Lies w v v' := by
  cases A with
  | some ad =>
    refine run_append_where w base t ty e z 1 bytes ht hinfo hzs (by decide) v n xs hown ad m c news (by rw [hr.1, Nat.mul_one]) ?_ h1 h63 hbytes hbase
    intro j u hu
    have hj : j < news.length := (List.getElem?_eq_some_iff.1 hu).1
    obtain ⟨b, o, e, _, hc⟩ := hr.2 (by rw [← hr.1]; omega)
    obtain rfl := Option.some.inj e
    have := hc j u hu
    unfold Addr.add
    split
    · rename_i h0; subst h0; exact this
    · exact this
  | none =>
    have h0 : m = 0 := by
      rcases Nat.eq_zero_or_pos m with h | h
      · exact h
      · obtain ⟨b, o, e, _⟩ := hr.2 h; cases e
    subst h0
    obtain rfl : news = [] := List.eq_nil_of_length_eq_zero hr.1
    obtain ⟨i, hi, _⟩ := Option.map_eq_some_iff.1 hinfo
    exact ⟨v, w, append_nothing w base t ty e i 1 ht hi v n xs hown c, by simpa using hown, World.grownBy.refl w _, .inl rfl⟩
theorem step_append_from {ops : Array Oper} {o : Oper} {a : Act} {w : World} {K : Act → World → Prop} {Q : Exit → Act → World → Prop} {E : Prop} (hgd : o.guard = none) (s x : Operand) (t : TypeId)
    (ho : o.op = Op.call { callee := Callee.builtin Builtin.append, args := #[s, x], argTypes := #[t, t] })
    (base : Nat) (e : TypeId) (z : Value) (bytes : Nat) (ht : P.underlying t = some (.slice e)) (hinfo : (P.info? e).map (fun i => (i.zero, i.size, i.bytes)) = some (some z, 1, bytes)) (hzs : z.cells.size = 1)
    (v : Value) (n : Nat) (xs : List Value) (hs : a.eval s = v) (hown : w.ownsRow base e 1 v n xs)
    (B : Nat) (A : Option Addr) (m c : Nat) (news : List Value) (hx : a.eval x = .slice A m c) (hr : Row w B A m news) (h1 : ∀ u ∈ news, u.oneCell' = true)
    (h63 : n + m ≤ maxLen) (hbytes : (n + m) * bytes ≤ 140737488355328) (hbase : base ≤ w.heap.size)
    (hK : ∀ v' w', Hid (w'.ownsRow base e 1 v' (n + m) (xs ++ news)) → Hid (w.grownBy w' v.ownBlock) → Hid (Lies w v v') → K (a.put o.dst v') w') :
    if Region.wanted o (yielded ops a.tmps) = true then Oper.wp P o a w K Q else E := by
  have hw : Region.wanted o (yielded ops a.tmps) = true := by simp [Region.wanted, hgd]
  rw [if_pos hw]
  obtain ⟨v', w', hr', h2, h3, h4⟩ := run_append_from (P := P) w base t o.type e z bytes ht hinfo hzs v n xs hown B A m c news hr h1 h63 hbytes hbase
  unfold Oper.wp execOp
  simp only [ho, resolve, invoke, builtin, Sem.run_bind, Sem.run_pure, Result.andThen_ok, List.map_toArray, List.map_cons, List.map_nil, hs, hx, hr']
  exact hK v' w' h2 h3 h4
end Go.Proofs.YtkdnfikaodkhnaaDoor
