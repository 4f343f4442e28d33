/-
  Texts one behind the other: AppendWhere, RecRefEnc, RecHead, RecDecode.
-/
import Derived.ArgAppend
import Derived.Lib.Hide
import Derived.RegionTactic
import Derived.Deep.RegionLaw
import Derived.StillTailTactics
import Derived.BigQuiet
import Derived.Test.YtbljdcdcnnidkaaGreatDoorG03
import Derived.Test.YtbljdcdcnnidkaaGreatDoorG05
/-
  Proved: appends onto a row of the call's own: the row behind it lies where it lay, or in a new block.
  Conditions: the lengths together are at most 2 to the 46th.
-/
namespace Go.Proofs.YtbljdcdcnnidkaaGreatDoor
open Go.RowKit
set_option linter.unusedVariables false
set_option linter.unusedSimpArgs false
variable {P : Program}

/-- Where the row behind an append lies. -/
def Lies (w : World) (v v' : Value) : Prop := v'.ownBlock = v.ownBlock ∨ ∀ b, v'.ownBlock = some b → w.heap.size ≤ b
theorem run_append_where (w : World) (base : Nat) (t ty e : TypeId) (z : Value) (size bytes : Nat) (ht : P.underlying t = some (.slice e)) (hinfo : (P.info? e).map (fun i => (i.zero, i.size, i.bytes)) = some (some z, size, bytes)) (hzs : z.cells.size = size) (hsz : 0 < size)
    (v : Value) (n : Nat) (xs : List Value) (hown : w.ownsRow base e size v n xs)
    (a : Addr) (m c : Nat) (news : List Value) (hl : news.length = m * size) (hnews : ∀ j u, news[j]? = some u → w.cell? (a.add j) = some u) (h1 : ∀ u ∈ news, u.oneCell' = true)
    (h63 : n + m ≤ maxLen) (hbytes : (n + m) * bytes ≤ 140737488355328) (hbase : base ≤ w.heap.size) :
    ∃ v' w', (Builtin.append_ #[t, t] ty #[v, .slice (some a) m c]).run P w = .ok v' w' ∧ w'.ownsRow base e size v' (n + m) (xs ++ news) ∧ w.grownBy w' v.ownBlock ∧ Lies w v v' := by
  obtain ⟨i, hi, hzz⟩ := Option.map_eq_some_iff.1 hinfo
  simp only [Prod.mk.injEq] at hzz
  obtain ⟨hz, hsize, hby⟩ := hzz
  obtain ⟨v', w', hr, h2, h3, _⟩ := run_append_own (P := P) w base t ty e i z size bytes ht hi hz hsize hby hzs hsz v n xs hown a m c news hl hnews h1 h63 hbytes hbase
  refine ⟨v', w', hr, h2, h3, ?_⟩
  rcases hown.2 with ⟨rfl, rfl⟩ | ⟨g, cap, cur, rfl, hbg, hg, hnc, hcm, hcs, htake⟩
  · have hown' : w.ownsRow w.heap.size e size (.slice none 0 0) 0 xs := ⟨hown.1, .inl ⟨rfl, rfl⟩⟩
    obtain ⟨v2, w2, hr2, h22, _, _⟩ := run_append_own (P := P) w w.heap.size t ty e i z size bytes ht hi hz hsize hby hzs hsz _ 0 xs hown' a m c news hl hnews h1 h63 hbytes (Nat.le_refl _)
    rw [hr] at hr2
    injection hr2 with e1 e2
    subst e1
    exact .inr fun b hb => (h22.lt b hb).1
  · by_cases hroom : n + m ≤ cap
    · have hfit : n * i.size + news.length ≤ cur.size := by rw [hsize, hl, hcs, ← Nat.add_mul]; exact Nat.mul_le_mul_right _ hroom
      have hr2 := run_append_room (P := P) w t ty e i ht hi g n cap cur hg a m c news (by rw [hsize]; exact hl) hnews h1 hroom hfit
      rw [hr] at hr2
      injection hr2 with e1 e2
      subst e1
      exact .inl rfl
    · have holds : ∀ j u, xs[j]? = some u → w.cell? ((⟨g, 0, none⟩ : Addr).add j) = some u := hown.cells (g := g) rfl
      obtain ⟨v2, w2, hr2, h22, _⟩ := run_append_arg_grows (P := P) w t ty e i z size bytes ht hi hz hsize hby hzs hsz ⟨g, 0, none⟩ n cap xs hown.1 holds a m c news hl hnews (by omega) h63 hbytes
      rw [hr] at hr2
      injection hr2 with e1 e2
      subst e1
      exact .inr fun b hb => (h22.lt b hb).1
theorem wp_append_where {o : Oper} {a : Act} {w : World} {K : Act → World → Prop} {Q : Exit → Act → World → Prop} (s x : Operand) (t : TypeId)
    (ho : o.op = .call { callee := .builtin .append, args := #[s, x], argTypes := #[t, t] })
    (base : Nat) (e : TypeId) (z : Value) (size bytes : Nat) (ht : P.underlying t = some (.slice e)) (hinfo : (P.info? e).map (fun i => (i.zero, i.size, i.bytes)) = some (some z, size, bytes)) (hzs : z.cells.size = size) (hsz : 0 < size)
    (v : Value) (n : Nat) (xs : List Value) (hs : a.eval s = v) (hown : w.ownsRow base e size v n xs)
    (ad : Addr) (m c : Nat) (news : List Value) (hx : a.eval x = .slice (some ad) m c) (hl : news.length = m * size) (hnews : ∀ j u, news[j]? = some u → w.cell? (ad.add j) = some u) (h1 : ∀ u ∈ news, u.oneCell' = true)
    (h63 : n + m ≤ maxLen) (hbytes : (n + m) * bytes ≤ 140737488355328) (hbase : base ≤ w.heap.size)
    (h : ∀ v' w', Hid (w'.ownsRow base e size v' (n + m) (xs ++ news)) → Hid (w.grownBy w' v.ownBlock) → Hid (Lies w v v') → K (a.put o.dst v') w') : o.wp P a w K Q := by
  obtain ⟨v', w', hr, h2, h3, h4⟩ := run_append_where (P := P) w base t o.type e z size bytes ht hinfo hzs hsz v n xs hown ad m c news hl hnews h1 h63 hbytes hbase
  unfold Oper.wp execOp
  simp only [ho, resolve, invoke, builtin, Sem.run_bind, Sem.run_pure, Result.andThen_ok, List.map_toArray, List.map_cons, List.map_nil, hs, hx, hr]
  exact h v' w' h2 h3 h4
theorem wpList_append_where {w : World} {ops : Array Oper} {rest : List Oper} {o : Oper} {a : Act} {Q : Exit → Act → World → Prop} (hgd : o.guard = none) (s x : Operand) (t : TypeId)
    (ho : o.op = .call { callee := .builtin .append, args := #[s, x], argTypes := #[t, t] })
    (base : Nat) (e : TypeId) (z : Value) (size bytes : Nat) (ht : P.underlying t = some (.slice e)) (hinfo : (P.info? e).map (fun i => (i.zero, i.size, i.bytes)) = some (some z, size, bytes)) (hzs : z.cells.size = size) (hsz : 0 < size)
    (v : Value) (n : Nat) (xs : List Value) (hs : a.eval s = v) (hown : w.ownsRow base e size v n xs)
    (ad : Addr) (m c : Nat) (news : List Value) (hx : a.eval x = .slice (some ad) m c) (hl : news.length = m * size) (hnews : ∀ j u, news[j]? = some u → w.cell? (ad.add j) = some u) (h1 : ∀ u ∈ news, u.oneCell' = true)
    (h63 : n + m ≤ maxLen) (hbytes : (n + m) * bytes ≤ 140737488355328) (hbase : base ≤ w.heap.size)
    (h : ∀ v' w', Hid (w'.ownsRow base e size v' (n + m) (xs ++ news)) → Hid (w.grownBy w' v.ownBlock) → Hid (Lies w v v') → wpList P ops Q rest (a.put o.dst v') w') : wpList P ops Q (o :: rest) a w :=
  wpList_plain hgd fun _ hK => wp_append_where s x t ho base e z size bytes ht hinfo hzs hsz v n xs hs hown ad m c news hx hl hnews h1 h63 hbytes hbase fun v' w' h2 h3 h4 => hK _ _ (h v' w' h2 h3 h4)
theorem step_append_where {ops : Array Oper} {o : Oper} {a : Act} {w : World} {K : Act → World → Prop} {Q : Exit → Act → World → Prop} {E : Prop} (hgd : o.guard = none) (s x : Operand) (t : TypeId)
    (ho : o.op = Op.call { callee := Callee.builtin Builtin.append, args := #[s, x], argTypes := #[t, t] })
    (base : Nat) (e : TypeId) (z : Value) (size bytes : Nat) (ht : P.underlying t = some (.slice e)) (hinfo : (P.info? e).map (fun i => (i.zero, i.size, i.bytes)) = some (some z, size, bytes)) (hzs : z.cells.size = size) (hsz : 0 < size)
    (v : Value) (n : Nat) (xs : List Value) (hs : a.eval s = v) (hown : w.ownsRow base e size v n xs)
    (ad : Addr) (m c : Nat) (news : List Value) (hx : a.eval x = .slice (some ad) m c) (hl : news.length = m * size) (hnews : ∀ j u, news[j]? = some u → w.cell? (ad.add j) = some u) (h1 : ∀ u ∈ news, u.oneCell' = true)
    (h63 : n + m ≤ maxLen) (hbytes : (n + m) * bytes ≤ 140737488355328) (hbase : base ≤ w.heap.size)
    (hK : ∀ v' w', Hid (w'.ownsRow base e size v' (n + m) (xs ++ news)) → Hid (w.grownBy w' v.ownBlock) → Hid (Lies w v v') → K (a.put o.dst v') w') :
    if Region.wanted o (yielded ops a.tmps) = true then Oper.wp P o a w K Q else E := by
  have hw : Region.wanted o (yielded ops a.tmps) = true := by simp [Region.wanted, hgd]
  rw [if_pos hw]
  exact wp_append_where s x t ho base e z size bytes ht hinfo hzs hsz v n xs hs hown ad m c news hx hl hnews h1 h63 hbytes hbase hK
/-- .. from any slice that reads as a list of one-cell values. -/
theorem run_append_from (w : World) (base : Nat) (t ty e : TypeId) (z : Value) (bytes : Nat) (ht : P.underlying t = some (.slice e)) (hinfo : (P.info? e).map (fun i => (i.zero, i.size, i.bytes)) = some (some z, 1, bytes)) (hzs : z.cells.size = 1)
    (v : Value) (n : Nat) (xs : List Value) (hown : w.ownsRow base e 1 v n xs)
    (B : Nat) (A : Option Addr) (m c : Nat) (news : List Value) (hr : Row w B A m news) (h1 : ∀ u ∈ news, u.oneCell' = true)
    (h63 : n + m ≤ maxLen) (hbytes : (n + m) * bytes ≤ 140737488355328) (hbase : base ≤ w.heap.size) :
    ∃ v' w', (Builtin.append_ #[t, t] ty #[v, .slice A m c]).run P w = .ok v' w' ∧ w'.ownsRow base e 1 v' (n + m) (xs ++ news) ∧ w.grownBy w' v.ownBlock ∧ Lies w v v' := by
  cases A with
  | some ad =>
    refine run_append_where w base t ty e z 1 bytes ht hinfo hzs (by decide) v n xs hown ad m c news (by rw [hr.1, Nat.mul_one]) ?_ h1 h63 hbytes hbase
    intro j u hu
    have hj : j < news.length := (List.getElem?_eq_some_iff.1 hu).1
    obtain ⟨b, o, e, _, hc⟩ := hr.2 (by rw [← hr.1]; omega)
    obtain rfl := Option.some.inj e
    have := hc j u hu
    unfold Addr.add
    split
    · rename_i h0; subst h0; exact this
    · exact this
  | none =>
    have h0 : m = 0 := by
      rcases Nat.eq_zero_or_pos m with h | h
      · exact h
      · obtain ⟨b, o, e, _⟩ := hr.2 h; cases e
    subst h0
    obtain rfl : news = [] := List.eq_nil_of_length_eq_zero hr.1
    obtain ⟨i, hi, _⟩ := Option.map_eq_some_iff.1 hinfo
    exact ⟨v, w, append_nothing w base t ty e i 1 ht hi v n xs hown c, by simpa using hown, World.grownBy.refl w _, .inl rfl⟩
theorem step_append_from {ops : Array Oper} {o : Oper} {a : Act} {w : World} {K : Act → World → Prop} {Q : Exit → Act → World → Prop} {E : Prop} (hgd : o.guard = none) (s x : Operand) (t : TypeId)
    (ho : o.op = Op.call { callee := Callee.builtin Builtin.append, args := #[s, x], argTypes := #[t, t] })
    (base : Nat) (e : TypeId) (z : Value) (bytes : Nat) (ht : P.underlying t = some (.slice e)) (hinfo : (P.info? e).map (fun i => (i.zero, i.size, i.bytes)) = some (some z, 1, bytes)) (hzs : z.cells.size = 1)
    (v : Value) (n : Nat) (xs : List Value) (hs : a.eval s = v) (hown : w.ownsRow base e 1 v n xs)
    (B : Nat) (A : Option Addr) (m c : Nat) (news : List Value) (hx : a.eval x = .slice A m c) (hr : Row w B A m news) (h1 : ∀ u ∈ news, u.oneCell' = true)
    (h63 : n + m ≤ maxLen) (hbytes : (n + m) * bytes ≤ 140737488355328) (hbase : base ≤ w.heap.size)
    (hK : ∀ v' w', Hid (w'.ownsRow base e 1 v' (n + m) (xs ++ news)) → Hid (w.grownBy w' v.ownBlock) → Hid (Lies w v v') → K (a.put o.dst v') w') :
    if Region.wanted o (yielded ops a.tmps) = true then Oper.wp P o a w K Q else E := by
  have hw : Region.wanted o (yielded ops a.tmps) = true := by simp [Region.wanted, hgd]
  rw [if_pos hw]
  obtain ⟨v', w', hr', h2, h3, h4⟩ := run_append_from (P := P) w base t o.type e z bytes ht hinfo hzs v n xs hown B A m c news hr h1 h63 hbytes hbase
  unfold Oper.wp execOp
  simp only [ho, resolve, invoke, builtin, Sem.run_bind, Sem.run_pure, Result.andThen_ok, List.map_toArray, List.map_cons, List.map_nil, hs, hx, hr']
  exact hK v' w' h2 h3 h4
end Go.Proofs.YtbljdcdcnnidkaaGreatDoor
/-
  Proved: what the reference's Encode returns: a record's bytes in memory of its own; none where it may not be.
  Conditions: numbers and texts are those of values.
-/
namespace Go.Proofs.YtbljdcdcnnidkaaGreatDoor.Rec
open Go.RowKit
open Go.Proofs.YtbljdcdcnnidkaaGreatDoor.Crc (Turned)
set_option linter.unusedVariables false
set_option linter.unusedSimpArgs false

section
variable {ops : Array Oper} {o : Oper} {a : Act} {w : World} {K : Act → World → Prop} {Q : Exit → Act → World → Prop} {E : Prop}
theorem step_append_nil (hgd : o.guard = none) (y : Operand) (ho : o.op = .call { callee := .builtin .append, args := #[.const (.slice none 0 0), y], argTypes := #[31, 31] })
    (base B : Nat) (A : Option Addr) (m c : Nat) (ps : List UInt8) (hy : a.eval y = .slice A m c) (hr : Row w B A m (bvs ps)) (h0 : 0 < m) (hm : m ≤ 1000000) (hb : base ≤ w.heap.size)
    (hK : ∀ A' c' w', Hid (w'.ownsRow base 5 1 (.slice A' m c') m (bvs ps)) → Hid (w.grownBy w' none) → K (a.put o.dst (.slice A' m c')) w') :
    if Region.wanted o (yielded ops a.tmps) = true then Oper.wp Tryz.prog o a w K Q else E := by
  obtain ⟨b, f, rfl, _, hc⟩ := hr.2 h0
  refine step_append_where hgd (.const (.slice none 0 0)) y 31 ho base 5 (.int .u8 0) 1 1 Tryz.underlying31 u8_info rfl (by decide) (.slice none 0 0) 0 [] rfl (World.ownsRow_nil _ _ _ _) ⟨b, f, none⟩ m c (bvs ps) hy (by rw [hr.1, Nat.mul_one]) ?_ (bvs_one _) (by unfold maxLen; omega) (by omega) hb ?_
  · intro j u hu
    have := hc j u hu
    unfold Addr.add
    split
    · rename_i hj; subst hj; exact this
    · exact this
  · intro v' w' h1 h2 _
    have h3 := h1.out
    rw [Nat.zero_add, List.nil_append] at h3
    obtain ⟨A', c', rfl, _, _⟩ := own_form h3
    exact hK A' c' w' h3 h2
theorem step_append_text (hgd : o.guard = none) (s y : Operand) (ho : o.op = .call { callee := .builtin .append, args := #[s, y], argTypes := #[31, 9] })
    (base : Nat) (v : Value) (n : Nat) (bs : List UInt8) (hs : a.eval s = v) (hown : Hid (w.ownsRow base 5 1 v n (bvs bs))) (l : List UInt8) (hy : a.eval y = .string (str l)) (hl : n + l.length ≤ 1000000) (hb : base ≤ w.heap.size)
    (hK : ∀ A' c' w', Hid (w'.ownsRow base 5 1 (.slice A' (n + l.length) c') (n + l.length) (bvs (bs ++ l))) → Hid (w.grownBy w' v.ownBlock) → K (a.put o.dst (.slice A' (n + l.length) c')) w') :
    if Region.wanted o (yielded ops a.tmps) = true then Oper.wp Tryz.prog o a w K Q else E := by
  have hw : Region.wanted o (yielded ops a.tmps) = true := by simp [Region.wanted, hgd]
  rw [if_pos hw]
  obtain ⟨i, hi, hz0, hz1, hz2⟩ := u8_info3
  have e : Lib.strCells (str l) = bvs l := by simp [Lib.strCells, str, bvs, bv]
  obtain ⟨v', w', hr, h2, h3, _⟩ := Lib.run_append_own_string (P := Tryz.prog) w base 31 9 o.type 5 i Tryz.underlying31 Tryz.underlying9 hi hz0 hz1 hz2 v n (bvs bs) hown.out (str l) (by rw [str_size]; unfold maxLen; omega) (by rw [str_size]; omega) hb
  rw [e, bvs_append, str_size] at h2
  obtain ⟨A', c', rfl, _, _⟩ := own_form h2
  unfold Oper.wp execOp
  simp only [ho, resolve, invoke, builtin, Sem.run_bind, Sem.run_pure, Result.andThen_ok, List.map_toArray, List.map_cons, List.map_nil, hs, hy, hr]
  exact hK A' c' w' h2 h3
end
set_option maxRecDepth 100000 in
set_option maxHeartbeats 4000000 in
theorem refencode_any (x : Rc) (w : World) (hf : x.Fits) (hl : x.body.length ≤ maxLen) :
    Calls Tryz.prog 34 #[.agg x.vals] w fun e w' => ∃ u, e = .returned u ∧ w'.ownsRow w.heap.size 5 1 u (enc x).length (bvs (enc x)) ∧ Below w.heap.size w w' := by
  have HM := Lib.hid (fun w : World => refmay_any x w hl)
  have h0 : Hid (RecAt (w.alloc (.cells x.vals 78)) w.heap.size x) := RecAt.new w x
  clear hl
  by_cases hm : x.May
  case neg =>
    have em := may_false hm
    rw [enc_not hm]
    go_enter Tryz.func34, Tryz.ntmps34
    go_wp2_with (first
      | (refine load_rec h0.out rfl (.tmp 1) rfl rfl ?_)
      | (go_at_call 55; refine (HM.out _).mono ?_; rw [em]; rintro e w' ⟨rfl, hb⟩))
    have HB := Lib.hid hb
    clear hb
    go_wp2_with fail
    go_ret
    exact ⟨_, rfl, World.ownsRow_nil _ _ _ _, (below_alloc w _).trans (HB.out.mono (by simp))⟩
  have em := may_true hm
  have hb6 := hm.2.2.2.2.2
  have hk1 := hm.1
  have hk4 := hm.2.1
  have HF := Lib.hid hf
  have HMay := Lib.hid hm
  clear hf hm
  have hsz := str_size x.body
  obtain ⟨κ, hκ⟩ : ∃ κ : Nat, κ = x.kind.toNat := ⟨_, rfl⟩
  have hk : x.kind = ((κ : Nat) : Int) := by omega
  have hk9 : κ ≤ 4 := by omega
  have HKK := Lib.hid hk
  have HK := Lib.hid hκ
  clear hκ hk hk1 hk4
  have Q1 := Lib.hid HF.out.tenant
  have Q2 := Lib.hid HF.out.epoch
  have Q3 := Lib.hid HF.out.object
  have Q4 := Lib.hid HF.out.seq
  go_enter Tryz.func34, Tryz.ntmps34
  go_upto_region 3 with (first
      | (refine load_rec h0.out rfl (.tmp 1) rfl rfl ?_)
      | (go_at_call 55; refine (HM.out _).mono ?_; rw [em]; rintro e w1 ⟨rfl, hb⟩))
  have HB1 : Hid (Below w.heap.size w w1) := (below_alloc w _).trans (hb.mono (by simp))
  have HR1 : Hid (RecAt w1 w.heap.size x) := h0.out.below hb (by simp)
  have hlt1 : Hid (w.heap.size + 1 ≤ w1.heap.size) := HR1.out.lt
  have x0 : w1.cell? ⟨w.heap.size, 0, none⟩ = some (.int .i64 (κ : Int)) := by rw [← HKK.out]; exact HR1.out.cell 0
  clear hb h0 HM
  go_upto_region 4 with fail
  have hcs : bvs [83, 82, UInt8.ofNat κ] = [.int .u8 83, .int .u8 82, .int .u8 (κ : Int)] := by
    have : (UInt8.ofNat κ).toNat = κ := by rw [UInt8.toNat_ofNat']; omega
    simp [bvs, bv, this]
  obtain ⟨w3, hw3⟩ : ∃ w3, w3 = w1.alloc (.cells #[.int .u8 83, .int .u8 82, .int .u8 (κ : Int)] 5) := ⟨_, rfl⟩
  have HE3 : Hid (Enc w w.heap.size x w3 (.slice (some ⟨w1.heap.size, 0, none⟩) 3 3) [83, 82, UInt8.ofNat κ]) := by
    rw [hw3]
    refine ⟨HR1.out.below (below_alloc w1 _) HR1.out.lt, ?_, HB1.out.alloc HB1.out.size _, rfl⟩
    rw [hcs]
    exact World.ownsRow_lit w1 #[.int .u8 83, .int .u8 82, .int .u8 (κ : Int)] 3 hlt1.out (by decide) rfl
  rw [← hw3]
  clear hw3 x0 HR1 HB1 hlt1 hcs
  have y4 : w3.cell? ⟨w.heap.size, 1, none⟩ = some (.int .u32 (x.tenant : Int)) := HE3.out.at'.cell 1
  have hr4 : x.tenant < 4294967296 := Q1.out
  go_upto_region 5 with (first
    | (go_at_call 56; refine (enc_refput HE3 (x.tenant) 4 4 rfl (by omega) (by have := Q1.out; omega)).mono ?_; rintro e z4 ⟨A4, c4, rfl, HP4, HR4, _⟩)
    | (at_builtin; refine enc_append HP4.out rfl (.tmp 12) (.tmp 16) rfl rfl _ A4 4 c4 _ rfl HR4.out (by simp) ?_; intro v4 w4 HE4))
  clear y4 HP4 HR4 HE3 hr4
  have y5 : w4.cell? ⟨w.heap.size, 2, none⟩ = some (.int .u64 (x.epoch : Int)) := HE4.out.at'.cell 2
  go_upto_region 6 with (first
    | (go_at_call 56; refine (enc_refput HE4 (x.epoch) 8 8 rfl (by omega) (Q2.out)).mono ?_; rintro e z5 ⟨A5, c5, rfl, HP5, HR5, _⟩)
    | (at_builtin; refine enc_append HP5.out rfl (.tmp 18) (.tmp 21) rfl rfl _ A5 8 c5 _ rfl HR5.out (by simp) ?_; intro v5 w5 HE5))
  clear y5 HP5 HR5 HE4
  have y6 : w5.cell? ⟨w.heap.size, 3, none⟩ = some (.int .u64 (x.object : Int)) := HE5.out.at'.cell 3
  go_upto_region 7 with (first
    | (go_at_call 56; refine (enc_refput HE5 (x.object) 8 8 rfl (by omega) (Q3.out)).mono ?_; rintro e z6 ⟨A6, c6, rfl, HP6, HR6, _⟩)
    | (at_builtin; refine enc_append HP6.out rfl (.tmp 23) (.tmp 26) rfl rfl _ A6 8 c6 _ rfl HR6.out (by simp) ?_; intro v6 w6 HE6))
  clear y6 HP6 HR6 HE5
  have y7 : w6.cell? ⟨w.heap.size, 4, none⟩ = some (.int .u64 (x.seq : Int)) := HE6.out.at'.cell 4
  go_upto_region 8 with (first
    | (go_at_call 56; refine (enc_refput HE6 (x.seq) 8 8 rfl (by omega) (Q4.out)).mono ?_; rintro e z7 ⟨A7, c7, rfl, HP7, HR7, _⟩)
    | (at_builtin; refine enc_append HP7.out rfl (.tmp 28) (.tmp 31) rfl rfl _ A7 8 c7 _ rfl HR7.out (by simp) ?_; intro v7 w7 HE7))
  clear y7 HP7 HR7 HE6
  have y8 : w7.cell? ⟨w.heap.size, 5, none⟩ = some (.string (str x.body)) := HE7.out.at'.cell 5
  go_upto_region 9 with (first
    | (go_at_call 56; refine (enc_refput HE7 (x.body.length) 4 4 rfl (by omega) (by omega)).mono ?_; rintro e z8 ⟨A8, c8, rfl, HP8, HR8, _⟩)
    | (at_builtin; refine enc_append HP8.out rfl (.tmp 33) (.tmp 38) rfl rfl _ A8 4 c8 _ rfl HR8.out (by simp) ?_; intro v8 w8 HE8))
  clear y8 HP8 HR8 HE7
  have hh : [83, 82, UInt8.ofNat κ] ++ be x.tenant 4 ++ be x.epoch 8 ++ be x.object 8 ++ be x.seq 8 ++ be x.body.length 4 = x.head := by rw [HK.out]; simp [Rc.head, be_one]
  rw [hh] at HE8
  clear hh
  obtain ⟨A, c, rfl, _, _, hrow⟩ := enc_row HE8.out
  have hv8 : Value.slice A x.head.length c = .slice A 35 c := by rw [x.head_length]
  rw [hv8] at HE8
  rw [x.head_length] at hrow
  clear hv8
  have HROW : Hid (Row w8.drew w8.heap.size A 35 (bvs x.head)) := hrow
  have y9 : w8.cell? ⟨w.heap.size, 5, none⟩ = some (.string (str x.body)) := HE8.out.at'.cell 5
  have hg8 : w.heap.size < w8.heap.size := HE8.out.lt
  have L1 : Hid (35 ≤ 1000000) := by show _ ≤ _; omega
  have L2 : Hid (35 + x.body.length ≤ 1000000) := by show _ ≤ _; omega
  have L3 : Hid (35 + x.body.length ≤ maxLen) := by show _ ≤ _; unfold maxLen; omega
  have L0 : Hid (0 < 35) := by show 0 < 35; omega
  clear hrow
  go_cut [4] (fun v w' => v = .int .u32 (((Crc.sum (x.head ++ x.body)).toNat : Nat) : Int) ∧ Hid (Below w8.heap.size w8 w'))
  case first =>
    go_region_law (first
      | (refine step_append_nil rfl (.tmp 40) rfl w8.heap.size w8.heap.size A 35 c x.head rfl HROW.out L0.out L1.out (Nat.le_refl _) ?_; intro A1 c1 z1 G1 G2; have HBZ : Hid (Below w8.heap.size w8 z1) := ((Below.refl _ _).drew.grown G2.out (Nat.le_refl _) (fun k hk => by cases hk)); have y10 : z1.cell? ⟨w.heap.size, 5, none⟩ = some (.string (str x.body)) := (HBZ.out.cell hg8).trans y9)
      | (refine step_append_text rfl (.tmp 41) (.tmp 43) rfl w8.heap.size (.slice A1 35 c1) 35 x.head rfl G1 x.body rfl L2.out HBZ.out.size ?_; intro A2 c2 z2 G3 G4; have HRZ := Lib.hid (Row.own G3.out))
      | (go_simp; go_at_call 57; with_reducible refine (Crc.ref_sum _ _ _ (x.head ++ x.body) _ HRZ.out L3.out).mono ?_; rintro e w' ⟨rfl, rfl⟩))
    all_goals
      go_wp2_with fail
      go_meet
      case rel => exact ⟨rfl, HBZ.out.grown G4.out HBZ.out.size (fun k hk => (G1.out.lt k hk).1)⟩
  case rest =>
  obtain ⟨rfl, HBC⟩ := hcut
  have HEC := Lib.hid (HE8.out.all HBC.out)
  clear y9 HROW HE8 HBC L0 L1 L2 L3
  obtain ⟨σ, hσ⟩ : ∃ σ, σ = (Crc.sum (x.head ++ x.body)).toNat := ⟨_, rfl⟩
  have hlt : (Crc.sum (x.head ++ x.body)).toNat < 4294967296 := (Crc.sum (x.head ++ x.body)).isLt
  rw [← hσ] at hlt ⊢
  have HSG := Lib.hid hσ
  clear hσ
  go_upto_region 11 with (first
    | (go_at_call 56; refine (enc_refput HEC σ 4 4 rfl (by omega) (by omega)).mono ?_; rintro e z11 ⟨A11, c11, rfl, HP11, HR11, _⟩)
    | (at_builtin; refine enc_append HP11.out rfl (.tmp 46) (.tmp 49) rfl rfl _ A11 4 c11 _ rfl HR11.out (by simp) ?_; intro v11 w11 HE11))
  have y12 : w11.cell? ⟨w.heap.size, 5, none⟩ = some (.string (str x.body)) := HE11.out.at'.cell 5
  clear HP11 HR11 HEC
  go_wp2_with (at_builtin; refine enc_string HE11.out rfl (.tmp 51) (.tmp 53) rfl rfl x.body rfl (by simp; omega) ?_; intro v12 w12 HE12)
  go_ret
  rw [enc_may HMay.out]
  have hb : x.head ++ be σ 4 ++ x.body = x.bytes := by rw [HSG.out]; rfl
  rw [hb] at HE12
  exact ⟨v12, rfl, HE12.out.row.mono (by omega), HE12.out.below⟩
end Go.Proofs.YtbljdcdcnnidkaaGreatDoor.Rec
/-
  Proved: what withoutBody returns of a whole head.
  Conditions: the slice reads as bytes, at least 39.
-/
namespace Go.Proofs.YtbljdcdcnnidkaaGreatDoor.Rec
open Go.RowKit
set_option linter.unusedVariables false
set_option linter.unusedSimpArgs false

theorem row_heap {w w' : World} {B n : Nat} {A : Option Addr} {vs : List Value} (h : Row w B A n vs) (e : w'.heap = w.heap) : Row w' B A n vs :=
  h.keep fun b o _ => by unfold World.cell?; rw [e]
theorem row_part {w : World} {B n k m b o : Nat} {bs : List UInt8} (h : Row w B (some ⟨b, o, none⟩) n (bvs bs)) (hk : k < m) (hm : m ≤ n) : Row w B (some ⟨b, o + k, none⟩) (m - k) (bvs (part bs k m)) := by
  have := (h.drop (k := k) (by omega)).take (k := m - k) (by omega)
  rw [bvs_drop, bvs_take] at this
  exact this
theorem get_part {w : World} {B n b o c : Nat} {bs : List UInt8} (h : Row w B (some ⟨b, o, none⟩) n (bvs bs)) (hnc : n ≤ c) (hc : c ≤ maxLen) (k m z d : Nat) (hk : k < m) (hm : m ≤ n) (hz : z = m - k) (h8 : z ≤ 8) (hd : d = c - k) :
    Hid (∀ w', w'.heap = w.heap → Calls Tryz.prog 59 #[.slice (some ⟨b, o + k, none⟩) z d] w' fun e w'' => e = .returned (.int .u64 (beN (part bs k m) : Int)) ∧ w'' = w') := by
  intro w' e
  subst hz hd
  refine (get_any _ _ _ B _ w' (row_heap (row_part h hk hm) e) h8 (by omega) (by omega)).mono ?_
  rintro e w'' ⟨h1, rfl⟩
  exact ⟨h1, rfl⟩
end Go.Proofs.YtbljdcdcnnidkaaGreatDoor.Rec
/-
  Proved: what Decode of record returns: what a list of bytes begins with.
  Conditions: the slice reads as bytes; the table crc.turned holds its sixteen words.
-/
namespace Go.Proofs.YtbljdcdcnnidkaaGreatDoor.Rec
open Go.RowKit
open Go.Proofs.YtbljdcdcnnidkaaGreatDoor.Crc (Turned)
set_option linter.unusedVariables false
set_option linter.unusedSimpArgs false

theorem result_rec3 {w : World} {fn : Func} {p q r : Tmp} {g : Nat} {x : Rc} (h : RecAt w g x) (hr : fn.results = #[.cell p 78, .tmp q, .tmp r]) (tmps : Array Value) (hp : tmps.getD p undef = .pointer (some ⟨g, 0, none⟩)) :
    (results fn tmps).run Tryz.prog w = .ok (.tuple #[.agg x.vals, tmps.getD q undef, tmps.getD r undef]) w := by
  have hp' : tmps[p]?.getD undef = .pointer (some ⟨g, 0, none⟩) := by simpa using hp
  simp [results, hr, hp', asAddr, run_loadVar_row w g 78 78 x.vals (0, 0) _ h Tryz.underlying78 rfl rec_info]
def Out.vals : Out → Array Value
  | .ok x n => #[.agg x.vals, .int .i64 (n : Int), .int .i64 0]
  | .more => #[.agg zeroRc.vals, .int .i64 0, .int .i64 11]
  | .bad => #[.agg zeroRc.vals, .int .i64 0, .int .i64 4]
theorem zero_new (w : World) : RecAt (w.alloc (.cells #[.int .i64 0, .int .u32 0, .int .u64 0, .int .u64 0, .int .u64 0, .string ⟨#[]⟩] 78)) w.heap.size zeroRc := Blk.new w 78 zeroRc.vals

theorem beN_part_lt (bs : List UInt8) (i j k : Nat) (h : i ≤ j) (hj : j ≤ bs.length) (hk : j - i = k) : beN (part bs i j) < 256 ^ k := beN_lt k _ (by rw [part_length bs i j h hj, hk])
theorem headOf_fits (bs : List UInt8) (h : 39 ≤ bs.length) : (headOf bs).Fits :=
  ⟨beN_part_lt bs 3 7 4 (by omega) (by omega) rfl, beN_part_lt bs 7 15 8 (by omega) (by omega) rfl, beN_part_lt bs 15 23 8 (by omega) (by omega) rfl, beN_part_lt bs 23 31 8 (by omega) (by omega) rfl⟩
end Go.Proofs.YtbljdcdcnnidkaaGreatDoor.Rec
