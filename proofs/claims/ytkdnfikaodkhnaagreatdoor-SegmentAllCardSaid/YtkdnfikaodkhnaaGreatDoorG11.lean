/-
  Texts one behind the other: AppendWhere, DiskChange.
-/
import Derived.ArgAppend
import Derived.Lib.Hide
import Derived.RegionTactic
import Derived.StillTailTactics
import Derived.WalkSpells
import Derived.Deep.RegionLaw
import Derived.Test.YtkdnfikaodkhnaaGreatDoorG03
import Derived.Test.YtkdnfikaodkhnaaGreatDoorG10
/-
  Proved: appends onto a row of the call's own: the row behind it lies where it lay, or in a new block.
  Conditions: the lengths together are at most 2 to the 46th.
-/
namespace Go.Proofs.YtkdnfikaodkhnaaGreatDoor
open Go.RowKit
set_option linter.unusedVariables false
set_option linter.unusedSimpArgs false
variable {P : Program}

/-- Where the row behind an append lies. -/
def Lies (w : World) (v v' : Value) : Prop := v'.ownBlock = v.ownBlock ∨ ∀ b, v'.ownBlock = some b → w.heap.size ≤ b
theorem run_append_where (w : World) (base : Nat) (t ty e : TypeId) (z : Value) (size bytes : Nat) (ht : P.underlying t = some (.slice e)) (hinfo : (P.info? e).map (fun i => (i.zero, i.size, i.bytes)) = some (some z, size, bytes)) (hzs : z.cells.size = size) (hsz : 0 < size)
    (v : Value) (n : Nat) (xs : List Value) (hown : w.ownsRow base e size v n xs)
    (a : Addr) (m c : Nat) (news : List Value) (hl : news.length = m * size) (hnews : ∀ j u, news[j]? = some u → w.cell? (a.add j) = some u) (h1 : ∀ u ∈ news, u.oneCell' = true)
    (h63 : n + m ≤ maxLen) (hbytes : (n + m) * bytes ≤ 140737488355328) (hbase : base ≤ w.heap.size) :
    ∃ v' w', (Builtin.append_ #[t, t] ty #[v, .slice (some a) m c]).run P w = .ok v' w' ∧ w'.ownsRow base e size v' (n + m) (xs ++ news) ∧ w.grownBy w' v.ownBlock ∧ Lies w v v' := by
  obtain ⟨i, hi, hzz⟩ := Option.map_eq_some_iff.1 hinfo
  simp only [Prod.mk.injEq] at hzz
  obtain ⟨hz, hsize, hby⟩ := hzz
  obtain ⟨v', w', hr, h2, h3, _⟩ := run_append_own (P := P) w base t ty e i z size bytes ht hi hz hsize hby hzs hsz v n xs hown a m c news hl hnews h1 h63 hbytes hbase
  refine ⟨v', w', hr, h2, h3, ?_⟩
  rcases hown.2 with ⟨rfl, rfl⟩ | ⟨g, cap, cur, rfl, hbg, hg, hnc, hcm, hcs, htake⟩
  · have hown' : w.ownsRow w.heap.size e size (.slice none 0 0) 0 xs := ⟨hown.1, .inl ⟨rfl, rfl⟩⟩
    obtain ⟨v2, w2, hr2, h22, _, _⟩ := run_append_own (P := P) w w.heap.size t ty e i z size bytes ht hi hz hsize hby hzs hsz _ 0 xs hown' a m c news hl hnews h1 h63 hbytes (Nat.le_refl _)
    rw [hr] at hr2
    injection hr2 with e1 e2
    subst e1
    exact .inr fun b hb => (h22.lt b hb).1
  · by_cases hroom : n + m ≤ cap
    · have hfit : n * i.size + news.length ≤ cur.size := by rw [hsize, hl, hcs, ← Nat.add_mul]; exact Nat.mul_le_mul_right _ hroom
      have hr2 := run_append_room (P := P) w t ty e i ht hi g n cap cur hg a m c news (by rw [hsize]; exact hl) hnews h1 hroom hfit
      rw [hr] at hr2
      injection hr2 with e1 e2
      subst e1
      exact .inl rfl
    · have holds : ∀ j u, xs[j]? = some u → w.cell? ((⟨g, 0, none⟩ : Addr).add j) = some u := hown.cells (g := g) rfl
      obtain ⟨v2, w2, hr2, h22, _⟩ := run_append_arg_grows (P := P) w t ty e i z size bytes ht hi hz hsize hby hzs hsz ⟨g, 0, none⟩ n cap xs hown.1 holds a m c news hl hnews (by omega) h63 hbytes
      rw [hr] at hr2
      injection hr2 with e1 e2
      subst e1
      exact .inr fun b hb => (h22.lt b hb).1
theorem wp_append_where {o : Oper} {a : Act} {w : World} {K : Act → World → Prop} {Q : Exit → Act → World → Prop} (s x : Operand) (t : TypeId)
    (ho : o.op = .call { callee := .builtin .append, args := #[s, x], argTypes := #[t, t] })
    (base : Nat) (e : TypeId) (z : Value) (size bytes : Nat) (ht : P.underlying t = some (.slice e)) (hinfo : (P.info? e).map (fun i => (i.zero, i.size, i.bytes)) = some (some z, size, bytes)) (hzs : z.cells.size = size) (hsz : 0 < size)
    (v : Value) (n : Nat) (xs : List Value) (hs : a.eval s = v) (hown : w.ownsRow base e size v n xs)
    (ad : Addr) (m c : Nat) (news : List Value) (hx : a.eval x = .slice (some ad) m c) (hl : news.length = m * size) (hnews : ∀ j u, news[j]? = some u → w.cell? (ad.add j) = some u) (h1 : ∀ u ∈ news, u.oneCell' = true)
    (h63 : n + m ≤ maxLen) (hbytes : (n + m) * bytes ≤ 140737488355328) (hbase : base ≤ w.heap.size)
    (h : ∀ v' w', Hid (w'.ownsRow base e size v' (n + m) (xs ++ news)) → Hid (w.grownBy w' v.ownBlock) → Hid (Lies w v v') → K (a.put o.dst v') w') : o.wp P a w K Q := by
  obtain ⟨v', w', hr, h2, h3, h4⟩ := run_append_where (P := P) w base t o.type e z size bytes ht hinfo hzs hsz v n xs hown ad m c news hl hnews h1 h63 hbytes hbase
  unfold Oper.wp execOp
  simp only [ho, resolve, invoke, builtin, Sem.run_bind, Sem.run_pure, Result.andThen_ok, List.map_toArray, List.map_cons, List.map_nil, hs, hx, hr]
  exact h v' w' h2 h3 h4
theorem wpList_append_where {w : World} {ops : Array Oper} {rest : List Oper} {o : Oper} {a : Act} {Q : Exit → Act → World → Prop} (hgd : o.guard = none) (s x : Operand) (t : TypeId)
    (ho : o.op = .call { callee := .builtin .append, args := #[s, x], argTypes := #[t, t] })
    (base : Nat) (e : TypeId) (z : Value) (size bytes : Nat) (ht : P.underlying t = some (.slice e)) (hinfo : (P.info? e).map (fun i => (i.zero, i.size, i.bytes)) = some (some z, size, bytes)) (hzs : z.cells.size = size) (hsz : 0 < size)
    (v : Value) (n : Nat) (xs : List Value) (hs : a.eval s = v) (hown : w.ownsRow base e size v n xs)
    (ad : Addr) (m c : Nat) (news : List Value) (hx : a.eval x = .slice (some ad) m c) (hl : news.length = m * size) (hnews : ∀ j u, news[j]? = some u → w.cell? (ad.add j) = some u) (h1 : ∀ u ∈ news, u.oneCell' = true)
    (h63 : n + m ≤ maxLen) (hbytes : (n + m) * bytes ≤ 140737488355328) (hbase : base ≤ w.heap.size)
    (h : ∀ v' w', Hid (w'.ownsRow base e size v' (n + m) (xs ++ news)) → Hid (w.grownBy w' v.ownBlock) → Hid (Lies w v v') → wpList P ops Q rest (a.put o.dst v') w') : wpList P ops Q (o :: rest) a w :=
  wpList_plain hgd fun _ hK => wp_append_where s x t ho base e z size bytes ht hinfo hzs hsz v n xs hs hown ad m c news hx hl hnews h1 h63 hbytes hbase fun v' w' h2 h3 h4 => hK _ _ (h v' w' h2 h3 h4)
theorem step_append_where {ops : Array Oper} {o : Oper} {a : Act} {w : World} {K : Act → World → Prop} {Q : Exit → Act → World → Prop} {E : Prop} (hgd : o.guard = none) (s x : Operand) (t : TypeId)
    (ho : o.op = Op.call { callee := Callee.builtin Builtin.append, args := #[s, x], argTypes := #[t, t] })
    (base : Nat) (e : TypeId) (z : Value) (size bytes : Nat) (ht : P.underlying t = some (.slice e)) (hinfo : (P.info? e).map (fun i => (i.zero, i.size, i.bytes)) = some (some z, size, bytes)) (hzs : z.cells.size = size) (hsz : 0 < size)
    (v : Value) (n : Nat) (xs : List Value) (hs : a.eval s = v) (hown : w.ownsRow base e size v n xs)
    (ad : Addr) (m c : Nat) (news : List Value) (hx : a.eval x = .slice (some ad) m c) (hl : news.length = m * size) (hnews : ∀ j u, news[j]? = some u → w.cell? (ad.add j) = some u) (h1 : ∀ u ∈ news, u.oneCell' = true)
    (h63 : n + m ≤ maxLen) (hbytes : (n + m) * bytes ≤ 140737488355328) (hbase : base ≤ w.heap.size)
    (hK : ∀ v' w', Hid (w'.ownsRow base e size v' (n + m) (xs ++ news)) → Hid (w.grownBy w' v.ownBlock) → Hid (Lies w v v') → K (a.put o.dst v') w') :
    if Region.wanted o (yielded ops a.tmps) = true then Oper.wp P o a w K Q else E := by
  have hw : Region.wanted o (yielded ops a.tmps) = true := by simp [Region.wanted, hgd]
  rw [if_pos hw]
  exact wp_append_where s x t ho base e z size bytes ht hinfo hzs hsz v n xs hs hown ad m c news hx hl hnews h1 h63 hbytes hbase hK
/-- .. from any slice that reads as a list of one-cell values. -/
theorem run_append_from (w : World) (base : Nat) (t ty e : TypeId) (z : Value) (bytes : Nat) (ht : P.underlying t = some (.slice e)) (hinfo : (P.info? e).map (fun i => (i.zero, i.size, i.bytes)) = some (some z, 1, bytes)) (hzs : z.cells.size = 1)
    (v : Value) (n : Nat) (xs : List Value) (hown : w.ownsRow base e 1 v n xs)
    (B : Nat) (A : Option Addr) (m c : Nat) (news : List Value) (hr : Row w B A m news) (h1 : ∀ u ∈ news, u.oneCell' = true)
    (h63 : n + m ≤ maxLen) (hbytes : (n + m) * bytes ≤ 140737488355328) (hbase : base ≤ w.heap.size) :
    ∃ v' w', (Builtin.append_ #[t, t] ty #[v, .slice A m c]).run P w = .ok v' w' ∧ w'.ownsRow base e 1 v' (n + m) (xs ++ news) ∧ w.grownBy w' v.ownBlock ∧ Lies w v v' := by
  cases A with
  | some ad =>
    refine run_append_where w base t ty e z 1 bytes ht hinfo hzs (by decide) v n xs hown ad m c news (by rw [hr.1, Nat.mul_one]) ?_ h1 h63 hbytes hbase
    intro j u hu
    have hj : j < news.length := (List.getElem?_eq_some_iff.1 hu).1
    obtain ⟨b, o, e, _, hc⟩ := hr.2 (by rw [← hr.1]; omega)
    obtain rfl := Option.some.inj e
    have := hc j u hu
    unfold Addr.add
    split
    · rename_i h0; subst h0; exact this
    · exact this
  | none =>
    have h0 : m = 0 := by
      rcases Nat.eq_zero_or_pos m with h | h
      · exact h
      · obtain ⟨b, o, e, _⟩ := hr.2 h; cases e
    subst h0
    obtain rfl : news = [] := List.eq_nil_of_length_eq_zero hr.1
    obtain ⟨i, hi, _⟩ := Option.map_eq_some_iff.1 hinfo
    exact ⟨v, w, append_nothing w base t ty e i 1 ht hi v n xs hown c, by simpa using hown, World.grownBy.refl w _, .inl rfl⟩
theorem step_append_from {ops : Array Oper} {o : Oper} {a : Act} {w : World} {K : Act → World → Prop} {Q : Exit → Act → World → Prop} {E : Prop} (hgd : o.guard = none) (s x : Operand) (t : TypeId)
    (ho : o.op = Op.call { callee := Callee.builtin Builtin.append, args := #[s, x], argTypes := #[t, t] })
    (base : Nat) (e : TypeId) (z : Value) (bytes : Nat) (ht : P.underlying t = some (.slice e)) (hinfo : (P.info? e).map (fun i => (i.zero, i.size, i.bytes)) = some (some z, 1, bytes)) (hzs : z.cells.size = 1)
    (v : Value) (n : Nat) (xs : List Value) (hs : a.eval s = v) (hown : w.ownsRow base e 1 v n xs)
    (B : Nat) (A : Option Addr) (m c : Nat) (news : List Value) (hx : a.eval x = .slice A m c) (hr : Row w B A m news) (h1 : ∀ u ∈ news, u.oneCell' = true)
    (h63 : n + m ≤ maxLen) (hbytes : (n + m) * bytes ≤ 140737488355328) (hbase : base ≤ w.heap.size)
    (hK : ∀ v' w', Hid (w'.ownsRow base e 1 v' (n + m) (xs ++ news)) → Hid (w.grownBy w' v.ownBlock) → Hid (Lies w v v') → K (a.put o.dst v') w') :
    if Region.wanted o (yielded ops a.tmps) = true then Oper.wp P o a w K Q else E := by
  have hw : Region.wanted o (yielded ops a.tmps) = true := by simp [Region.wanted, hgd]
  rw [if_pos hw]
  obtain ⟨v', w', hr', h2, h3, h4⟩ := run_append_from (P := P) w base t o.type e z bytes ht hinfo hzs v n xs hown B A m c news hr h1 h63 hbytes hbase
  unfold Oper.wp execOp
  simp only [ho, resolve, invoke, builtin, Sem.run_bind, Sem.run_pure, Result.andThen_ok, List.map_toArray, List.map_cons, List.map_nil, hs, hx, hr']
  exact hK v' w' h2 h3 h4
end Go.Proofs.YtkdnfikaodkhnaaGreatDoor
/-
  Proved: what change of package disk does to memory: the directory is changed, and the change waits.
-/
namespace Go.Proofs.YtkdnfikaodkhnaaGreatDoor.Disk
open Go.RowKit Go.Maps
set_option linter.unusedVariables false
set_option linter.unusedSimpArgs false

theorem chg_info : (Tryz.prog.info? 79).map (fun i => (i.zero, i.size, i.bytes)) = some (some (.agg #[.string ⟨#[]⟩, .string ⟨#[]⟩, .pointer none]), 3, 40) := by kernel_rfl
/-- Only these three blocks turn. -/
def Turns (w w' : World) (T : Nat → Prop) : Prop := w'.os = w.os ∧ w'.tape = w.tape ∧ w'.output = w.output ∧ w.heap.size ≤ w'.heap.size ∧ ∀ b, b < w.heap.size → ¬ T b → w'.heap[b]? = w.heap[b]?
theorem Turns.of {w w' : World} {g : Nat} {T : Nat → Prop} (h : w.grownBy w' (some g)) (hg : T g) : Turns w w' T := ⟨h.os, h.tape, h.output, h.size, fun b hb hne => h.block b hb (fun e => hne (by injection e with e; rw [e]; exact hg))⟩
theorem Turns.of_opt {w w' : World} {row : Option Nat} {T : Nat → Prop} (h : w.grownBy w' row) (hg : ∀ g, row = some g → T g) : Turns w w' T := ⟨h.os, h.tape, h.output, h.size, fun b hb hne => h.block b hb (fun e => hne (hg b e.symm))⟩
theorem Turns.trans {w1 w2 w3 : World} {T : Nat → Prop} (h : Turns w1 w2 T) (k : Turns w2 w3 T) : Turns w1 w3 T :=
  ⟨k.1.trans h.1, k.2.1.trans h.2.1, k.2.2.1.trans h.2.2.1, Nat.le_trans h.2.2.2.1 k.2.2.2.1, fun b hb hne => (k.2.2.2.2 b (Nat.lt_of_lt_of_le hb h.2.2.2.1) hne).trans (h.2.2.2.2 b hb hne)⟩
theorem Turns.new {w1 w2 w3 : World} {g : Nat} {T : Nat → Prop} (h : Turns w1 w2 T) (hg : w1.heap.size ≤ g) (k : w2.grownBy w3 (some g)) : Turns w1 w3 T :=
  ⟨k.os.trans h.1, k.tape.trans h.2.1, k.output.trans h.2.2.1, Nat.le_trans h.2.2.2.1 k.size, fun b hb hne => (k.block b (Nat.lt_of_lt_of_le hb h.2.2.2.1) (fun e => by injection e with e; omega)).trans (h.2.2.2.2 b hb hne)⟩
theorem Turns.below {w1 w2 w3 : World} {T : Nat → Prop} (h : Turns w1 w2 T) (k : Below w1.heap.size w2 w3) : Turns w1 w3 T :=
  ⟨k.os.trans h.1, k.tape.trans h.2.1, k.output.trans h.2.2.1, Nat.le_trans h.2.2.2.1 k.size, fun b hb hne => (k.block b hb).trans (h.2.2.2.2 b hb hne)⟩
theorem Turns.refl (w : World) (T : Nat → Prop) : Turns w w T := ⟨rfl, rfl, rfl, Nat.le_refl _, fun _ _ _ => rfl⟩
theorem Turns.keep {w w' : World} {T : Nat → Prop} (h : Turns w w' T) {g : Nat} (hg : g < w.heap.size) (hT : ¬ T g) : w'.heap[g]? = w.heap[g]? := h.2.2.2.2 g hg hT

theorem undrew {w w' : World} {row : Option Nat} (h : w.drew.grownBy w' row) : w.grownBy w' row := ⟨h.os, h.tape, h.output, h.size, h.block⟩
theorem three_cells (w : World) (a b c : Value) (t : TypeId) : ∀ j u, [a, b, c][j]? = some u → ((w.alloc (.cells #[a, b, c] t)).drew).cell? ((⟨w.heap.size, 0, none⟩ : Addr).add j) = some u := by
  intro j u hu
  have h := (Blk.new w t #[a, b, c]).cell j
  have e : (⟨w.heap.size, 0, none⟩ : Addr).add j = ⟨w.heap.size, j, none⟩ := by
    unfold Addr.add
    split
    · rename_i hj; subst hj; rfl
    · simp
  rw [e]
  refine Eq.trans h ?_
  simpa using hu
theorem chg_each (c : Chg) : ∀ u ∈ c.cells, u.oneCell' = true := by
  obtain ⟨gone, name, file⟩ := c
  intro u hu
  simp [Chg.cells, Chg.ptr] at hu
  rcases hu with rfl | rfl | rfl <;> rfl

theorem change_end {f nb sb n : Nat} {wv v3 : Value} {d : Dk} {c : Chg} {w w2 w3 : World} {o : Obj} (hfn : f ≠ nb) (hfw : ∀ b, wv.ownBlock = some b → b ≠ f ∧ b ≠ nb) (hfl : f < w.heap.size) (hwl : w.heap.size ≤ w2.heap.size)
    (hN : w2.ownsMap Tryz.prog 9 held nb (n + 1) (dirMap (c.on d.N))) (hW : Turns w w2 (fun b => b = f ∨ b = nb ∨ wv.ownBlock = some b))
    (G1 : w3.ownsRow 0 79 3 v3 (d.wait.length + 1) (chgCells d.wait ++ [.string c.gone, .string c.name, c.ptr])) (G2 : ((w2.alloc o).drew).grownBy w3 wv.ownBlock) (G3 : Lies ((w2.alloc o).drew) wv v3) (hB : Blk w3 f 63 (fsCells d nb sb wv)) :
    ∃ wv', Ending.returned undef = Ending.returned undef ∧
      Blk (w3.setCell ⟨f, 3, none⟩ v3) f 63 (fsCells { d with N := c.on d.N, wait := d.wait ++ [c] } nb sb wv') ∧ (w3.setCell ⟨f, 3, none⟩ v3).ownsMap Tryz.prog 9 held nb (n + 1) (dirMap (c.on d.N)) ∧
      (w3.setCell ⟨f, 3, none⟩ v3).ownsRow 0 79 3 wv' (d.wait ++ [c]).length (chgCells (d.wait ++ [c])) ∧ Lies w wv wv' ∧ Turns w (w3.setCell ⟨f, 3, none⟩ v3) (fun b => b = f ∨ b = nb ∨ wv.ownBlock = some b) := by
  have g1 : w2.grownBy w3 wv.ownBlock := (World.grownBy_alloc w2 o wv.ownBlock).trans (undrew G2)
  have g2 := only_setCell w3 ⟨f, 3, none⟩ v3
  have hn := hN.lt
  have hsz : ((w2.alloc o).drew).heap.size = w2.heap.size + 1 := by simp
  refine ⟨v3, rfl, hB.put 3 v3, (hN.kept g1 (fun e => (hfw nb e.symm).2 rfl)).kept g2 (by simp; exact fun e => hfn e.symm), ?_, ?_, ?_⟩
  · rw [List.length_append, chgCells_snoc]
    refine row_keep G1 fun b hb => g2.block b (row_lt G1 b hb) ?_
    intro e
    injection e with e
    rcases G3 with h | h
    · exact (hfw b (h.symm.trans hb)).1 e
    · have := h b hb
      have e' : b = f := e
      omega
  · rcases G3 with h | h
    · exact .inl h
    · exact .inr fun b hb => by have := h b hb; omega
  · exact (hW.trans (Turns.of_opt g1 fun g hg => .inr (.inr hg))).trans (Turns.of g2 (.inl rfl))

set_option maxRecDepth 100000 in
theorem change_raw (f nb sb n : Nat) (wv : Value) (d : Dk) (c : Chg) (w : World) (hb : Blk w f 63 (fsCells d nb sb wv)) (hN : w.ownsMap Tryz.prog 9 held nb n (dirMap d.N)) (hn : n < maxLen) (h1 : c.gone.size ≤ maxLen) (h2 : c.name.size ≤ maxLen)
    (hr : w.ownsRow 0 79 3 wv d.wait.length (chgCells d.wait)) (hl : d.wait.length ≤ 1073741824) (hfn : f ≠ nb) (hfw : ∀ b, wv.ownBlock = some b → b ≠ f ∧ b ≠ nb) :
    Calls Tryz.prog 49 #[.pointer (some ⟨f, 0, none⟩), .agg #[.string c.gone, .string c.name, c.ptr]] w fun e w' => ∃ wv', e = .returned undef ∧
      Blk w' f 63 (fsCells { d with N := c.on d.N, wait := d.wait ++ [c] } nb sb wv') ∧ w'.ownsMap Tryz.prog 9 held nb (n + 1) (dirMap (c.on d.N)) ∧
      w'.ownsRow 0 79 3 wv' (d.wait ++ [c]).length (chgCells (d.wait ++ [c])) ∧ Lies w wv wv' ∧ Turns w w' (fun b => b = f ∨ b = nb ∨ wv.ownBlock = some b) := by
  have hz := zeroChg
  have hnl := hN.lt
  have hfl := blk_lt' hb
  have s0 : w.cell? ⟨f, 1, none⟩ = some (.map (some nb)) := hb.cell 1
  have X0 := Blk.new w 79 #[.string c.gone, .string c.name, c.ptr]
  have ld : (w.alloc (.cells #[.string c.gone, .string c.name, c.ptr] 79)).heap.size = w.heap.size + 1 := by simp
  have hg0 := World.grownBy_alloc w (.cells #[.string c.gone, .string c.name, c.ptr] 79) none
  have hb0 := blk_kept hb hg0 (by simp)
  have AP := Lib.hid (apply_any nb n d.N c)
  have hq := fun w => run_eql_map_nil (P := Tryz.prog) w 60 _ _ (some nb) Tryz.underlying60
  have HB := Lib.hid hb
  have HR := Lib.hid hr
  generalize hp : c.ptr = p at *
  have HP := Lib.hid hp
  clear hb hr hp
  go_enter Tryz.func49, Tryz.ntmps49
  go_wp2_with fail
  obtain ⟨w1, hw1⟩ : ∃ w1, w1 = w.alloc (.cells #[.string c.gone, .string c.name, p] 79) := ⟨_, rfl⟩
  have hN1 := hN.alloc (.cells #[.string c.gone, .string c.name, p] 79)
  rw [← hw1] at X0 ld hg0 hb0 hN1 ⊢
  have s1 : w1.cell? ⟨f, 1, none⟩ = some (.map (some nb)) := hb0.cell 1
  have x0 := X0.cell 0
  have x1 := X0.cell 1
  have x2 := X0.cell 2
  clear hw1
  go_still_tail 5, (by kernel_rfl)
  change wpList _ _ _ _ _ w1.drew
  go_wp2_with fail
  refine (AP.out w1.drew hN1 hn h1 h2).mono ?_
  rintro e w2 ⟨rfl, hN2, hg2⟩
  have hg2' : w1.grownBy w2 (some nb) := undrew hg2
  have X2 := blk_kept X0 hg2' (by simp; omega)
  have hb2 := blk_kept hb0 hg2' (by simp; omega)
  have hr1 := row_keep (w' := w2) HR.out fun b hbk => (hg2'.block b (Nat.lt_of_lt_of_le (row_lt HR.out b hbk) hg0.size) (by have := (hfw b hbk).2; simp; omega)).trans (hg0.block b (row_lt HR.out b hbk) (by simp))
  have hgw : Turns w w2 (fun b => b = f ∨ b = nb ∨ wv.ownBlock = some b) := (Turns.of_opt hg0 (by simp)).trans (Turns.of hg2' (.inr (.inl rfl)))
  have y0 := X2.cell 0
  have y1 := X2.cell 1
  have y2 := X2.cell 2
  have t3 : w2.cell? ⟨f, 3, none⟩ = some wv := hb2.cell 3
  have ft3 := hb2.free 3
  have ht3 : ∀ k, some k = wv.ownBlock → k ≠ f := fun k hk => (hfw k hk.symm).1
  have HB2 := Lib.hid hb2
  have HR2 := Lib.hid hr1
  have HN2 := Lib.hid hN2
  have HW2 := Lib.hid hgw
  clear s0 s1 x0 x1 x2 X0 X2 hb2 hr1 hN2 hN1 hg2 hg2' hg0 hb0 hgw AP
  have t3a : (w2.alloc (.cells #[.string c.gone, .string c.name, p] 79)).cell? ⟨f, 3, none⟩ = some wv := (blk_kept HB2.out (World.grownBy_alloc w2 (.cells #[.string c.gone, .string c.name, p] 79) none) (by simp)).cell 3
  have R1 : Hid (((w2.alloc (.cells #[.string c.gone, .string c.name, p] 79)).drew).ownsRow 0 79 3 wv d.wait.length (chgCells d.wait)) := HR2.out.alloc _
  have R2 : Hid (∀ u ∈ [Value.string c.gone, Value.string c.name, p], u.oneCell' = true) := by
    have := chg_each c
    rw [Chg.cells, HP.out] at this
    exact this
  have R3 : Hid (d.wait.length + 1 ≤ maxLen) := by show _ ≤ _; unfold maxLen; omega
  have R4 : Hid ((d.wait.length + 1) * 40 ≤ 140737488355328) := by show _ ≤ _; omega
  go_wp2_with fail
  go_region_law (refine step_append_where rfl (.tmp 27) (.tmp 29) 61 rfl 0 79 _ 3 40 Tryz.underlying61 chg_info rfl (by decide) wv d.wait.length (chgCells d.wait) rfl R1.out ⟨w2.heap.size, 0, none⟩ 1 1 [.string c.gone, .string c.name, p] rfl rfl (three_cells w2 _ _ _ _) R2.out R3.out R4.out (Nat.zero_le _) ?_; intro v3 w3 G1 G2 G3; obtain ⟨A3, c3, rfl, _, _⟩ := own_form G1.out; have hb3 := blk_kept (blk_kept HB2.out (World.grownBy_alloc w2 (.cells #[.string c.gone, .string c.name, p] 79) none) (by simp)) (undrew G2.out) (fun e => ht3 f e rfl); have t33 : w3.cell? ⟨f, 3, none⟩ = some wv := hb3.cell 3; have ft33 := hb3.free 3; have HB3 := Lib.hid hb3; clear hb3)
  all_goals
    go_wp2_with fail
    go_end0
    exact change_end hfn hfw hfl HW2.out.2.2.2.1 HN2.out HW2.out (by rw [HP.out]; exact G1.out) G2.out G3.out HB3.out
end Go.Proofs.YtkdnfikaodkhnaaGreatDoor.Disk
