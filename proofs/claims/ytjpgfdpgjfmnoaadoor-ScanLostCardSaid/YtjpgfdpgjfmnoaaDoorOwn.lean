/-
  Proved: appends of bytes onto a row that the call itself made, whatever slice of bytes comes behind (nil, empty or not); how such a row reads.
  Conditions: the lengths together are at most 2 to the 46th.
-/
import Derived.Test.YtjpgfdpgjfmnoaaDoorMem
import Derived.Laws.AppendOwn
import Derived.OwnWalk
namespace Go.Proofs.YtjpgfdpgjfmnoaaDoor
open Go.RowKit

/-- A row that the call owns reads as its values. -/
theorem Row.own {w : World} {base : Nat} {e : TypeId} {A : Option Addr} {n c : Nat} {vs : List Value} (h : w.ownsRow base e 1 (.slice A n c) n vs) : Row w w.heap.size A n vs := by
  refine ⟨by rw [h.1, Nat.mul_one], fun hn => ?_⟩
  rcases h.2 with ⟨_, h0⟩ | ⟨g, cap, cur, hv, _, hg, hnc, hm, hcs, hx⟩
  · omega
  · injection hv with h1 h2 h3
    subst h1
    have hlt : g < w.heap.size := by
      rcases Nat.lt_or_ge g w.heap.size with h | h
      · exact h
      · rw [Array.getElem?_eq_none h] at hg; cases hg
    refine ⟨g, 0, rfl, hlt, fun i v hv => ?_⟩
    rw [Nat.zero_add, cell_of_row w g i cur e (0, 0) hg]
    rw [← hx, List.getElem?_take] at hv
    split at hv
    · simpa using hv
    · cases hv
theorem own_form {w : World} {base : Nat} {e : TypeId} {size n : Nat} {v : Value} {vs : List Value} (h : w.ownsRow base e size v n vs) : ∃ A c, v = .slice A n c ∧ n ≤ c ∧ c ≤ maxLen := by
  rcases h.2 with ⟨h0, h1⟩ | ⟨g, cap, cur, hv, _, _, hnc, hm, _, _⟩
  · subst h1; exact ⟨none, 0, h0, Nat.le_refl _, by decide⟩
  · exact ⟨_, cap, hv, hnc, hm⟩
theorem own_block {w : World} {base : Nat} {e : TypeId} {n : Nat} {v : Value} {vs : List Value} (h : w.ownsRow base e 1 v n vs) (hn : 0 < n) :
    ∃ g cap cur, v = .slice (some ⟨g, 0, none⟩) n cap ∧ base ≤ g ∧ Blk w g e cur ∧ n ≤ cap ∧ cap ≤ maxLen ∧ cur.size = cap ∧ cur.toList.take n = vs := by
  rcases h.2 with ⟨_, h0⟩ | ⟨g, cap, cur, hv, hb, hg, hnc, hm, hcs, hx⟩
  · omega
  · exact ⟨g, cap, cur, hv, hb, hg, hnc, hm, by omega, by simpa using hx⟩
theorem own_below {w w' a : World} {base B : Nat} {e : TypeId} {size n : Nat} {v : Value} {vs : List Value} (h : w.ownsRow base e size v n vs) (hb : Below B a w) (hB : B ≤ base) (hs : base ≤ w.heap.size) (hg : w.grownBy w' v.ownBlock) : Below B a w' :=
  hb.grown hg (Nat.le_trans hB hs) (fun k hk => Nat.le_trans hB (h.lt k hk).1)

variable {P : Program}
theorem append_nothing (w : World) (base : Nat) (t ty e : TypeId) (i : TypeInfo) (size : Nat) (ht : P.underlying t = some (.slice e)) (hi : P.info? e = some i)
    (v : Value) (n : Nat) (xs : List Value) (hown : w.ownsRow base e size v n xs) (c : Nat) : (Builtin.append_ #[t, t] ty #[v, .slice none 0 c]).run P w = .ok v w := by
  obtain ⟨A, k, rfl, hk, _⟩ := own_form hown
  rcases hown.2 with ⟨h0, rfl⟩ | ⟨g, cap, cur, h0, _⟩
  · injection h0 with h1 h2 h3
    subst h1 h3
    simp [Builtin.append_, run_underlying ht, sizeOf, typeInfo, hi, Builtin.lenOf, Builtin.firstCells]
  · injection h0 with h1 h2 h3
    subst h1
    simp [Builtin.append_, run_underlying ht, sizeOf, typeInfo, hi, Builtin.lenOf, Builtin.firstCells, hk, storeCells]
/-- append onto a row of the call's own, of any one-cell type: the source is any slice that reads as a list. -/
theorem wpList_append_reads {w : World} {ops : Array Oper} {rest : List Oper} {o : Oper} {a : Act} {Q : Exit → Act → World → Prop} (hgd : o.guard = none) (s x : Operand) (t : TypeId)
    (ho : o.op = .call { callee := .builtin .append, args := #[s, x], argTypes := #[t, t] })
    (base : Nat) (e : TypeId) (z : Value) (bytes : Nat) (ht : P.underlying t = some (.slice e)) (hinfo : (P.info? e).map (fun i => (i.zero, i.size, i.bytes)) = some (some z, 1, bytes)) (hz1 : z.cells = #[z])
    (v : Value) (n : Nat) (xs : List Value) (hs : a.eval s = v) (hown : w.ownsRow base e 1 v n xs)
    (B : Nat) (A : Option Addr) (m c : Nat) (news : List Value) (hx : a.eval x = .slice A m c) (hr : Row w B A m news) (h1 : ∀ u ∈ news, u.oneCell' = true)
    (h63 : n + m ≤ maxLen) (hbytes : (n + m) * bytes ≤ 140737488355328) (hbase : base ≤ w.heap.size)
    (h : ∀ v' w', w'.ownsRow base e 1 v' (n + m) (xs ++ news) → w.grownBy w' v.ownBlock → wpList P ops Q rest (a.put o.dst v') w') : wpList P ops Q (o :: rest) a w := by
  obtain ⟨i, hi, hzz⟩ := Option.map_eq_some_iff.1 hinfo
  simp only [Prod.mk.injEq] at hzz
  obtain ⟨hz, hsz, hb⟩ := hzz
  by_cases h0 : 0 < m
  · obtain ⟨b, off, rfl, _, hc⟩ := hr.2 h0
    refine wpList_append_own (w := w) hgd s x t ho base e i z 1 bytes ht hi hz hsz hb (by rw [hz1]; rfl) (by decide) v n xs hs hown ⟨b, off, none⟩ m c news hx (by rw [hr.1, Nat.mul_one]) ?_ h1 h63 hbytes hbase
      (fun v' w' h2 h3 _ => h v' w' h2 h3)
    intro j u hu
    have := hc j u hu
    unfold Addr.add
    split
    · rename_i hj; subst hj; exact this
    · exact this
  · obtain rfl : m = 0 := by omega
    obtain rfl : news = [] := List.eq_nil_of_length_eq_zero hr.1
    rcases A with _ | ad
    · refine wpList_plain hgd fun K hK => ?_
      have hrun := append_nothing (P := P) w base t o.type e i 1 ht hi v n xs hown c
      unfold Oper.wp
      simp [execOp, ho, resolve, invoke, builtin, hs, hx, hrun, Result.andThen]
      exact hK _ _ (h v w (by simpa using hown) (World.grownBy.refl w _))
    · exact wpList_append_own (w := w) hgd s x t ho base e i z 1 bytes ht hi hz hsz hb (by rw [hz1]; rfl) (by decide) v n xs hs hown ad 0 c [] hx rfl (fun j u hu => by simp at hu) h1 h63 hbytes hbase
        (fun v' w' h2 h3 _ => h v' w' h2 h3)
theorem bvs_one (bs : List UInt8) : ∀ u ∈ bvs bs, u.oneCell' = true := by
  intro u hu
  obtain ⟨c, _, rfl⟩ := List.mem_map.1 hu
  rfl
theorem bvs_append (a b : List UInt8) : bvs a ++ bvs b = bvs (a ++ b) := by simp [bvs]
end Go.Proofs.YtjpgfdpgjfmnoaaDoor
