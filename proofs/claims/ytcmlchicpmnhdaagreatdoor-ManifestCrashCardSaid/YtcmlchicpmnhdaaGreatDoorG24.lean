/-
  Texts one behind the other: DiskSums.
-/
import Derived.Test.YtcmlchicpmnhdaaGreatDoorG21
/-
  Proved: what Used and Dirty of package disk return: sums over the files of the directory.
-/
namespace Go.Proofs.YtcmlchicpmnhdaaGreatDoor.Disk
open Go.RowKit Go.Maps
set_option linter.unusedVariables false
set_option linter.unusedSimpArgs false

/-- The sum over those files that are no longer to come. -/
def part (φ : Nat → Nat) (left : Lit → Bool) : Dir → Nat
  | [] => 0
  | p :: r => (if left (.string p.1) = true then 0 else φ p.2) + part φ left r
def total (φ : Nat → Nat) (N : Dir) : Nat := (N.map fun p => φ p.2).sum
theorem part_all (φ : Nat → Nat) (left : Lit → Bool) : ∀ N : Dir, (∀ p ∈ N, left (.string p.1) = true) → part φ left N = 0
  | [], _ => rfl
  | p :: r, h => by rw [part, if_pos (h p (by simp)), part_all φ left r fun q hq => h q (by simp [hq])]
theorem part_none (φ : Nat → Nat) (left : Lit → Bool) (h : ∀ z, left z = false) : ∀ N : Dir, part φ left N = total φ N
  | [] => rfl
  | p :: r => by
    rw [part, if_neg (by rw [h]; simp), part_none φ left h r]
    simp [total]
theorem part_skip (φ : Nat → Nat) (left : Lit → Bool) (n : Nm) : ∀ N : Dir, (∀ p ∈ N, p.1 ≠ n) → part φ (fun z => left z && !z.sameKey (.string n)) N = part φ left N
  | [], _ => rfl
  | p :: r, h => by
    have e : (Lit.string p.1).sameKey (.string n) = false := by
      show (p.1 == n) = false
      exact beq_eq_false_iff_ne.2 (h p (by simp))
    rw [part, part, e, part_skip φ left n r fun q hq => h q (by simp [hq])]
    simp
theorem part_step (φ : Nat → Nat) (left : Lit → Bool) (n : Nm) (g : Nat) (hl : left (.string n) = true) : ∀ N : Dir, N.Pairwise (fun p q => p.1 ≠ q.1) → (n, g) ∈ N → part φ (fun z => left z && !z.sameKey (.string n)) N = part φ left N + φ g
  | [], _, h => by cases h
  | p :: r, hp, h => by
    obtain ⟨h1, h2⟩ := List.pairwise_cons.1 hp
    rcases List.mem_cons.1 h with rfl | h
    · rw [part, part, part_skip φ left n r fun q hq => (h1 q hq).symm]
      have e : (Lit.string n).sameKey (.string n) = true := by show (n == n) = true; simp
      simp only [e, hl]
      simp
      omega
    · have hne : p.1 ≠ n := h1 (n, g) h
      have e : (Lit.string p.1).sameKey (.string n) = false := beq_eq_false_iff_ne.2 hne
      rw [part, part, e, part_step φ left n g hl r h2 h]
      simp
      omega
theorem part_le (φ : Nat → Nat) (left : Lit → Bool) (M : Nat) : ∀ N : Dir, (∀ p ∈ N, φ p.2 ≤ M) → part φ left N ≤ N.length * M
  | [], _ => by simp [part]
  | p :: r, h => by
    have h1 := h p (by simp)
    have h2 := part_le φ left M r fun q hq => h q (by simp [hq])
    rw [part, List.length_cons, Nat.add_mul]
    split <;> omega
theorem part_lt (φ : Nat → Nat) (left : Lit → Bool) (M : Nat) (N : Dir) (n : Nm) (g : Nat) (hl : left (.string n) = true) (hp : N.Pairwise (fun p q => p.1 ≠ q.1)) (hm : (n, g) ∈ N) (h : ∀ p ∈ N, φ p.2 ≤ M) : part φ left N + φ g ≤ N.length * M := by
  rw [← part_step φ left n g hl N hp hm]
  exact part_le φ _ M N h
/-- A directory's names are apart. -/
theorem dir_apart {w : World} {nb n : Nat} {N : Dir} (h : w.ownsMap Tryz.prog 9 held nb n (dirMap N)) : N.Pairwise (fun p q => p.1 ≠ q.1) := by
  obtain ⟨es, e, hr, _⟩ := h.canon lawS
  injection e with e
  subst e
  rw [List.pairwise_map] at hr
  refine hr.imp ?_
  intro p q hpq e
  have hpq' : bytesBefore p.1 q.1 = true := hpq
  rw [e, WideAt.bytes_irrefl] at hpq'
  cases hpq'
/-- An entry that has come. -/
theorem dir_entry {N : Dir} {key : ByteArray} {kl : Lit} {c : Value} {yd : DataW Value} {yp : List MemPlace} (hk : keyOf Tryz.prog 9 (.string key) = some kl) (hv : held c = some (yd, yp)) (hat : ∀ zd, (dirMap N).atKey kl zd = yd) :
    kl = .string key.data.toList ∧ ∃ g, c = .pointer (some ⟨g, 0, none⟩) ∧ (key.data.toList, g) ∈ N := by
  obtain ⟨s, e1, e2, _⟩ := WideMaps.string_of_keyOf Tryz.underlying9 hk
  rw [Value.string.injEq] at e1
  subst e1
  subst e2
  refine ⟨rfl, ?_⟩
  have hy : yd = .held c := by
    unfold held at hv
    rw [Option.some.injEq, Prod.mk.injEq] at hv
    exact hv.1.symm
  have h1 := hat .nil
  rw [dirMap_at, hy] at h1
  generalize hg : dget key.data.toList N = q at h1
  cases q with
  | none => cases h1
  | some g =>
    refine ⟨g, ?_, dget_mem hg⟩
    have h2 : (DataW.held (fp g) : DataW Value) = .held c := h1
    rw [DataW.held.injEq] at h2
    exact h2.symm
theorem sec_len {w : World} {ob n : Nat} {L : Secs} (h : w.ownsMap Tryz.prog 3 held ob n (secMap L)) (ty : TypeId) :
    (Builtin.len_ #[76] ty #[.map (some ob)]).run Tryz.prog w = .ok (.int .i64 (L.length : Int)) w := by
  have := h.len Tryz.underlying76 ty
  rwa [secMap_size] at this
set_option maxRecDepth 100000 in
theorem used_any {own : Own} {w : World} {f K nb sb : Nat} {d : Dk} {wv : Value} (h : DiskIn own w f d K nb sb wv) :
    Calls Tryz.prog 82 #[.pointer (some ⟨f, 0, none⟩)] w fun e w' => e = .returned (.int .i64 ((total (fun g => (d.fl g).now.length) d.N : Nat) : Int)) ∧ Below w.heap.size w w' := by
  have c1 : w.cell? ⟨f, 1, none⟩ = some (.map (some nb)) := Blk.cell h.blk 1
  have hap := dir_apart h.mapN
  have hNK := h.ok.N
  have hKb := h.ok.big
  have hmN := h.mapN
  have hmx : ∀ p ∈ d.N, (d.fl p.2).now.length ≤ 4194304 := fun p hp => by
    obtain ⟨_, v, ob, hf⟩ := h.files p.2 (.inl (List.mem_map.2 ⟨p, hp, rfl⟩))
    exact hf.ok.max
  have HF := Lib.hid (fun (p : Nm × Nat) (hp : p ∈ d.N) => (h.files p.2 (.inl (List.mem_map.2 ⟨p, hp, rfl⟩))).2)
  have HM := Lib.hid hmx
  have HA := Lib.hid hap
  clear h hmx hap
  go_enter Tryz.func82, Tryz.ntmps82
  go_wp2_with (at_range; refine wpList_range_own _ rfl _ 55 rfl 9 69 lawS Tryz.underlying55 held nb _ _ rfl hmN ?_; intro w0 hrg0 hg0 hs0)
  go_frame
  go_loopw [3] (fun s wr => ∃ (left : Lit → Bool) (cnt : Nat), s = .int .i64 ((part (fun g => (d.fl g).now.length) left d.N : Nat) : Int) ∧ wr.ranges Tryz.prog 9 held nb w.heap.size d.N.length (dirMap d.N) left cnt ∧ Hid (Below w.heap.size w wr)) (fun _ wr => wr.rangeLeft nb w.heap.size)
  case atStart =>
    refine ⟨_, _, ?_, hrg0, hg0.os, hg0.tape, hg0.output, hg0.size, fun k hk => hg0.block k hk (by simp)⟩
    rw [part_all]
    · rfl
    · intro p hp
      exact List.any_eq_true.2 ⟨dirEnt p, List.mem_map.2 ⟨p, hp, rfl⟩, by show (p.1 == p.1) = true; simp⟩
  case round =>
    obtain ⟨left, cnt, rfl, hrg, hB⟩ := hrel
    go_wp2_with (at_next; refine wpList_next_ranges _ rfl _ rfl 9 lawS held Value.string id (fun key kl hk => by obtain ⟨s, e, _⟩ := WideMaps.string_of_keyOf Tryz.underlying9 hk; exact ⟨s, e⟩) (fun v _ _ => ⟨v, rfl⟩) nb w.heap.size _ _ _ _ rfl hrg ?_ ?_)
    · intro hc0 hl0
      have HP : Hid (part (fun g => (d.fl g).now.length) left d.N = total (fun g => (d.fl g).now.length) d.N) := part_none _ _ hl0 _
      go_wp2
      go_ret
      exact ⟨by rw [HP.out]; rfl, hB.out⟩
    · intro x c kl yd yp w1 cnt1 hkey hlx hv hat hrg1 hlt hg1 hs1 hen
      obtain ⟨rfl, g, rfl, hm⟩ := dir_entry hkey hv hat
      obtain ⟨v0, ob0, hf⟩ := HF.out _ hm
      have hst := part_step (fun g => (d.fl g).now.length) left x.data.toList g hlx d.N HA.out hm
      have hle := part_lt (fun g => (d.fl g).now.length) left 4194304 d.N x.data.toList g hlx HA.out hm HM.out
      obtain ⟨A0, c0, rfl, _, _⟩ := own_form hf.row
      have hgl := blk_lt' hf.blk
      have hk : w1.heap[g]? = w.heap[g]? := (hg1.block g (Nat.lt_of_lt_of_le hgl hB.out.size) (fun e => by have := Option.some.inj e; dsimp only at hgl; omega)).trans (hB.out.block g hgl)
      have cg : w1.cell? ⟨g, 0, none⟩ = some (.slice A0 (d.fl g).now.length c0) := Blk.cell (hk.trans hf.blk) 0
      have HB1 : Hid (Below w.heap.size w w1) := hB.out.grown hg1 hB.out.size (fun k e => by have := Option.some.inj e; omega)
      have hlim : d.N.length * 4194304 ≤ 4503599627370496 := by omega
      generalize hq : (d.fl g).now.length = q at *
      generalize hP : part (fun g => (d.fl g).now.length) left d.N = P at *
      have HST := Lib.hid hst
      have HEQ := Lib.hid hP
      clear hst hP hf hq HF hB hm
      go_wp2_with fail
      go_roundw
      case rel => exact ⟨_, cnt1, by rw [HST.out]; go_num, hrg1, HB1⟩
      case measure => rw [hrg1.left_eq, hrg.left_eq]; exact hlt
set_option maxRecDepth 100000 in
theorem dirty_any {own : Own} {w : World} {f K nb sb : Nat} {d : Dk} {wv : Value} (h : DiskIn own w f d K nb sb wv) :
    Calls Tryz.prog 92 #[.pointer (some ⟨f, 0, none⟩)] w fun e w' => e = .returned (.int .i64 ((total (fun g => (d.fl g).soiled.length) d.N : Nat) : Int)) ∧ Below w.heap.size w w' := by
  have c1 : w.cell? ⟨f, 1, none⟩ = some (.map (some nb)) := Blk.cell h.blk 1
  have hap := dir_apart h.mapN
  have hNK := h.ok.N
  have hKb := h.ok.big
  have hmN := h.mapN
  have hmx : ∀ p ∈ d.N, (d.fl p.2).soiled.length ≤ 4194304 := fun p hp => by
    obtain ⟨_, v, ob, hf⟩ := h.files p.2 (.inl (List.mem_map.2 ⟨p, hp, rfl⟩))
    have := hf.ok.count; omega
  have HF := Lib.hid (fun (p : Nm × Nat) (hp : p ∈ d.N) => (h.files p.2 (.inl (List.mem_map.2 ⟨p, hp, rfl⟩))).2)
  have HM := Lib.hid hmx
  have HA := Lib.hid hap
  clear h hmx hap
  go_enter Tryz.func92, Tryz.ntmps92
  go_wp2_with (at_range; refine wpList_range_own _ rfl _ 55 rfl 9 69 lawS Tryz.underlying55 held nb _ _ rfl hmN ?_; intro w0 hrg0 hg0 hs0)
  go_frame
  go_loopw [3] (fun s wr => ∃ (left : Lit → Bool) (cnt : Nat), s = .int .i64 ((part (fun g => (d.fl g).soiled.length) left d.N : Nat) : Int) ∧ wr.ranges Tryz.prog 9 held nb w.heap.size d.N.length (dirMap d.N) left cnt ∧ Hid (Below w.heap.size w wr)) (fun _ wr => wr.rangeLeft nb w.heap.size)
  case atStart =>
    refine ⟨_, _, ?_, hrg0, hg0.os, hg0.tape, hg0.output, hg0.size, fun k hk => hg0.block k hk (by simp)⟩
    rw [part_all]
    · rfl
    · intro p hp
      exact List.any_eq_true.2 ⟨dirEnt p, List.mem_map.2 ⟨p, hp, rfl⟩, by show (p.1 == p.1) = true; simp⟩
  case round =>
    obtain ⟨left, cnt, rfl, hrg, hB⟩ := hrel
    go_wp2_with (at_next; refine wpList_next_ranges _ rfl _ rfl 9 lawS held Value.string id (fun key kl hk => by obtain ⟨s, e, _⟩ := WideMaps.string_of_keyOf Tryz.underlying9 hk; exact ⟨s, e⟩) (fun v _ _ => ⟨v, rfl⟩) nb w.heap.size _ _ _ _ rfl hrg ?_ ?_)
    · intro hc0 hl0
      have HP : Hid (part (fun g => (d.fl g).soiled.length) left d.N = total (fun g => (d.fl g).soiled.length) d.N) := part_none _ _ hl0 _
      go_wp2
      go_ret
      exact ⟨by rw [HP.out]; rfl, hB.out⟩
    · intro x c kl yd yp w1 cnt1 hkey hlx hv hat hrg1 hlt hg1 hs1 hen
      obtain ⟨rfl, g, rfl, hm⟩ := dir_entry hkey hv hat
      obtain ⟨v0, ob0, hf⟩ := HF.out _ hm
      have hst := part_step (fun g => (d.fl g).soiled.length) left x.data.toList g hlx d.N HA.out hm
      have hle := part_lt (fun g => (d.fl g).soiled.length) left 4194304 d.N x.data.toList g hlx HA.out hm HM.out
      have hgl := blk_lt' hf.blk
      have hk : w1.heap[g]? = w.heap[g]? := (hg1.block g (Nat.lt_of_lt_of_le hgl hB.out.size) (fun e => by have := Option.some.inj e; dsimp only at hgl; omega)).trans (hB.out.block g hgl)
      have cg : w1.cell? ⟨g, 2, none⟩ = some (.map (some ob0)) := Blk.cell (hk.trans hf.blk) 2
      have hol := hf.map.lt
      have hko : w1.heap[ob0]? = w.heap[ob0]? := (hg1.block ob0 (Nat.lt_of_lt_of_le hol hB.out.size) (fun e => by have := Option.some.inj e; omega)).trans (hB.out.block ob0 hol)
      have ln := fun ty => sec_len (map_keep hf.map hko) ty
      have HB1 : Hid (Below w.heap.size w w1) := hB.out.grown hg1 hB.out.size (fun k e => by have := Option.some.inj e; omega)
      have hlim : d.N.length * 4194304 ≤ 4503599627370496 := by omega
      generalize hq : (d.fl g).soiled.length = q at *
      generalize hP : part (fun g => (d.fl g).soiled.length) left d.N = P at *
      have HST := Lib.hid hst
      have HEQ := Lib.hid hP
      clear hst hP hf hq HF hB hm
      go_wp2_with fail
      go_roundw
      case rel => exact ⟨_, cnt1, by rw [HST.out]; go_num, hrg1, HB1⟩
      case measure => rw [hrg1.left_eq, hrg.left_eq]; exact hlt
end Go.Proofs.YtcmlchicpmnhdaaGreatDoor.Disk
