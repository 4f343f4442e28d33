/-
  Texts one behind the other: DiskAny, MixDisks, MixHad, ScanRef, ScanRefFront, ScanBuf.
-/
import Derived.BigQuiet
import Derived.Test.YtcmlchicpmnhdaaGreatDoorG06
import Derived.Test.YtcmlchicpmnhdaaGreatDoorG07
import Derived.Test.YtcmlchicpmnhdaaGreatDoorG09
import Derived.Test.YtcmlchicpmnhdaaGreatDoorG16
import Derived.Test.YtcmlchicpmnhdaaGreatDoorG33
/-
  Proved: steps of a law on a disk of which nothing is known but that it is one; a crash of a crash.
-/
namespace Go.Proofs.YtcmlchicpmnhdaaGreatDoor.Disk
open Go.RowKit Go.Maps
set_option linter.unusedVariables false
set_option linter.unusedSimpArgs false

/-- A call came back with a number, and the disk is held. -/
def Went (w0 : World) (f K : Nat) (e : Ending) (w' : World) : Prop := ∃ own' n d', e = .returned (.int .i64 n) ∧ Held own' w0 w' f d' K
theorem create_went {own : Own} {w0 w : World} {f K : Nat} {d : Dk} (s : ByteArray) (h : Held own w0 w f d K) (hs : s.size ≤ maxLen) (hK : K + 1 ≤ 1073741824) :
    Calls Tryz.prog 75 #[.pointer (some ⟨f, 0, none⟩), .string s] w (Went w0 f (K + 1)) := by
  refine (create_any s h.disk hs hK).mono ?_
  rintro e w' ⟨own', g, _, he, hd, hst⟩
  exact ⟨own', _, _, he, h.next hst hd⟩
theorem sync_went {own : Own} {w0 w : World} {f K : Nat} {d : Dk} (s : ByteArray) (h : Held own w0 w f d K) (hs : s.size ≤ maxLen) (hK : K + 1 ≤ 1073741824) :
    Calls Tryz.prog 57 #[.pointer (some ⟨f, 0, none⟩), .string s] w (Went w0 f (K + 1)) := by
  refine (sync_any s h.disk hs hK).mono ?_
  rintro e w' ⟨own', g, _, he, hd, hst⟩
  exact ⟨own', _, _, he, h.next hst hd⟩
theorem syncDir_went {own : Own} {w0 w : World} {f K : Nat} {d : Dk} (h : Held own w0 w f d K) (hK : K + 1 ≤ 1073741824) :
    Calls Tryz.prog 49 #[.pointer (some ⟨f, 0, none⟩)] w (Went w0 f (K + 1)) := by
  refine (syncDir_any h.disk hK).mono ?_
  rintro e w' ⟨own', g, _, he, hd, hst⟩
  exact ⟨own', _, _, he, h.next hst hd⟩
theorem write_went {own : Own} {w0 w : World} {f K : Nat} {d : Dk} (s : ByteArray) (a : Int) (h : Held own w0 w f d K) (hs : s.size ≤ maxLen) (hK : K + 1 ≤ 1073741824) (ha : -9223372036854775808 ≤ a ∧ a ≤ 9223372036854775807)
    {A : Option Addr} {m c : Nat} {bs : List UInt8} (hR : Row w0 w0.heap.size A m (bvs bs)) (hc : m ≤ c) (hcm : c ≤ maxLen) (hm : m ≤ 1099511627776) :
    Calls Tryz.prog 56 #[.pointer (some ⟨f, 0, none⟩), .string s, .int .i64 a, .slice A m c] w (Went w0 f (K + 1)) := by
  have hF := h.elder hR
  refine (write_any s a h.disk hs hK ha.1 ha.2 hF.row (Nat.le_refl _) (fun hm0 ad had g => by rw [hF.none_at hm0 ad had]; simp) hc hcm hm).mono ?_
  rintro e w' ⟨own', n, d', _, he, hd, hst⟩
  exact ⟨own', n, d', he, h.next hst hd⟩
set_option maxRecDepth 100000 in
theorem names_held {own : Own} {w0 w : World} {f K : Nat} {d : Dk} (h : Held own w0 w f d K) :
    Calls Tryz.prog 36 #[.pointer (some ⟨f, 0, none⟩)] w fun e w' => ∃ v, e = .returned v ∧ w'.ownsRow w.heap.size 9 1 v d.N.length ((d.N.map (·.1)).map encStr) ∧ Below w.heap.size w w' := by
  obtain ⟨nb, sb, wv, hd⟩ := h.disk
  have b1 : w.cell? ⟨f, 1, none⟩ = some (.map (some nb)) := Blk.cell hd.blk 1
  have CN := names_any hd.mapN (by have := hd.ok.N; have := hd.ok.big; omega)
  clear hd h
  go_enter Tryz.func36, Tryz.ntmps36
  go_wp2_with (go_at_call 30; refine CN.mono ?_; rintro e w' ⟨v, rfl, hrow, hb⟩)
  go_ret
  exact ⟨v, rfl, hrow, hb⟩
/-! A crash of a crash. -/
theorem dget_some {n : Nm} {N : Dir} (h : n ∈ N.map (·.1)) : ∃ g, dget n N = some g := by
  cases hg : dget n N with
  | some g => exact ⟨g, rfl⟩
  | none =>
    obtain ⟨p, hp, rfl⟩ := List.mem_map.1 h
    exact absurd rfl (dget_none hg p hp)
theorem crash_names (fl : Nat → Fl) (keep : List Bool) (torn : Int) : ∀ (k : Nat) (N : Dir), (crashFiles fl keep torn k N).map (·.1) = N.map (·.1)
  | _, [] => rfl
  | k, p :: r => by rw [crashFiles, List.map_cons, List.map_cons, crash_names]
theorem crash_find (fl : Nat → Fl) (keep : List Bool) (torn : Int) (n : Nm) (g : Nat) : ∀ (k : Nat) (N : Dir), dget n N = some g → ∃ parts, (crashFiles fl keep torn k N).find? (fun p => p.1 == n) = some (n, (fl g).crash parts)
  | _, [], h => by cases h
  | k, p :: r, h => by
    rw [crashFiles]
    by_cases hp : p.1 = n
    · rw [List.find?_cons_of_pos (by simpa using hp)]
      have e : dget n (p :: r) = some p.2 := by rw [dget, List.find?_cons_of_pos (by simpa using hp)]; rfl
      rw [e] at h
      obtain rfl := Option.some.inj h
      rw [hp]
      exact ⟨_, rfl⟩
    · rw [List.find?_cons_of_neg (by simpa using hp)]
      refine crash_find fl keep torn n g _ r ?_
      rw [dget, List.find?_cons_of_neg (by simpa using hp)] at h
      exact h
theorem files_names (d : Dk) : d.files.map (·.1) = d.N.map (·.1) := by
  rw [Dk.files, List.map_map]
  rfl
theorem Dk.Crashed.names {d a : Dk} {n : Int} {keep : List Bool} {torn : Int} (ha : d.Crashed a n keep torn) : a.N.map (·.1) = (d.crashDir n).map (·.1) := by
  rw [← files_names, ha.files, List.map_map]
  exact crash_names d.fl keep torn 0 (d.crashDir n)
theorem Dk.Crashed.clean {d a : Dk} {n : Int} {keep : List Bool} {torn : Int} (ha : d.Crashed a n keep torn) {p : Nm × Nat} (hp : p ∈ a.N) : ∃ y, a.fl p.2 = ⟨y, y, []⟩ := by
  have h1 : (p.1, a.fl p.2) ∈ a.files := List.mem_map.2 ⟨p, hp, rfl⟩
  rw [ha.files] at h1
  obtain ⟨q, _, hq⟩ := List.mem_map.1 h1
  injection hq with _ hq
  exact ⟨q.2, hq.symm⟩
theorem Dk.Crashed.again {d a : Dk} {n : Int} {keep : List Bool} {torn : Int} (ha : d.Crashed a n keep torn) (c : Int) : a.crashDir c = a.N := by
  rw [Dk.crashDir, ha.wait, ha.synced, List.take_nil]
  rfl
theorem Dk.Crashed.total {d a : Dk} {n : Int} {keep : List Bool} {torn : Int} (ha : d.Crashed a n keep torn) : total (fun g => (a.fl g).soiled.length) a.N = 0 := by
  unfold Disk.total
  rw [List.sum_eq_zero_iff_forall_eq_nat]
  intro x hx
  obtain ⟨p, hp, rfl⟩ := List.mem_map.1 hx
  obtain ⟨y, hy⟩ := ha.clean hp
  dsimp only
  rw [hy]
  rfl
theorem twice {d a b : Dk} {n : Int} {keep : List Bool} {torn : Int} (ha : d.Crashed a n keep torn) (hb : a.Crashed b 0 [] (-1)) :
    b.N.map (·.1) = a.N.map (·.1) ∧ ∀ nm ∈ a.N.map (·.1), ∃ y, a.look nm = some ⟨y, y, []⟩ ∧ b.look nm = some ⟨y, y, []⟩ := by
  refine ⟨by rw [hb.names, ha.again], fun nm hn => ?_⟩
  obtain ⟨g, hg⟩ := dget_some hn
  obtain ⟨y, hy⟩ := ha.clean (dget_mem hg)
  refine ⟨y, by rw [Dk.look, hg]; exact congrArg some hy, ?_⟩
  rw [hb.look, ha.again]
  obtain ⟨parts, hp⟩ := crash_find a.fl [] (-1) nm g 0 a.N hg
  rw [hp]
  have e : (a.fl g).crash parts = y := by
    dsimp only at hy
    rw [hy]
    exact Fl.crash_clean rfl rfl parts
  rw [e]
  rfl
theorem Dk.look_read (d : Dk) (k : Nat) (n : Nm) : (d.read k).look n = d.look n := rfl
/-- A row that a call has laid. -/
theorem Held.laid {own : Own} {w0 w w' : World} {f K : Nat} {d : Dk} (h : Held own w0 w f d K) {t : TypeId} {A : Option Addr} {n c : Nat} {xs : List Value} (hr : w'.ownsRow w.heap.size t 1 (.slice A n c) n xs) : Free own w' A n xs := by
  refine h.younger (Row.own hr) fun hn ad had => ?_
  rcases hr.2 with ⟨e, _⟩ | ⟨g, cap, cur, e, hb, _⟩
  · injection e with e1 e2 e3; omega
  · injection e with e1 e2 e3
    rw [e1] at had
    injection had with had
    rw [← had]
    exact hb
/-! Two disks beside each other, and rows that are no disk's. -/
structure Two (own : Own) (w1 w : World) (fa fb : Nat) (a b : Dk) (K : Nat) (Al Am : Option Addr) (L : Nat) (vs : List Value) : Prop where
  a : ∃ a', Held own w1 w fa a' K ∧ ∀ n, a'.look n = a.look n
  b : ∃ b', Held own w1 w fb b' K ∧ ∀ n, b'.look n = b.look n
  ne : fb ≠ fa
  l : Free own w Al L vs
  m : Free own w Am L vs
theorem Two.all {own : Own} {w1 w w' : World} {fa fb : Nat} {a b : Dk} {K : Nat} {Al Am : Option Addr} {L : Nat} {vs : List Value} (h : Two own w1 w fa fb a b K Al Am L vs) (hb : Below w.heap.size w w') : Two own w1 w' fa fb a b K Al Am L vs := by
  obtain ⟨a', ha, la⟩ := h.a
  obtain ⟨b', hb', lb⟩ := h.b
  exact ⟨⟨a', ha.all hb, la⟩, ⟨b', hb'.all hb, lb⟩, h.ne, h.l.keep (fun _ _ => rfl) hb, h.m.keep (fun _ _ => rfl) hb⟩
theorem Two.size_a {own : Own} {w1 w : World} {fa fb : Nat} {a b : Dk} {K : Nat} {Al Am : Option Addr} {L : Nat} {vs : List Value} (h : Two own w1 w fa fb a b K Al Am L vs) (nm y : List UInt8) (hs : nm.length ≤ maxLen) (hy : a.look nm = some ⟨y, y, []⟩) (q : Nat) :
    Calls Tryz.prog 45 #[.pointer (some ⟨fa, 0, none⟩), .string ⟨nm.toArray⟩] (w.drewN q) fun e w' => e = .returned (.int .i64 (y.length : Int)) ∧ w' = w.drewN q := by
  obtain ⟨a', ha, la⟩ := h.a
  exact size_look ⟨nm.toArray⟩ (ha.all (below_drewN (Below.refl _ w) q)) (by show nm.toArray.size ≤ maxLen; rw [List.size_toArray]; exact hs) (x := ⟨y, y, []⟩) (by show a'.look nm = _; rw [la]; exact hy)
theorem Two.size_b {own : Own} {w1 w : World} {fa fb : Nat} {a b : Dk} {K : Nat} {Al Am : Option Addr} {L : Nat} {vs : List Value} (h : Two own w1 w fa fb a b K Al Am L vs) (nm y : List UInt8) (hs : nm.length ≤ maxLen) (hy : b.look nm = some ⟨y, y, []⟩) (q : Nat) :
    Calls Tryz.prog 45 #[.pointer (some ⟨fb, 0, none⟩), .string ⟨nm.toArray⟩] (w.drewN q) fun e w' => e = .returned (.int .i64 (y.length : Int)) ∧ w' = w.drewN q := by
  obtain ⟨b', hb, lb⟩ := h.b
  exact size_look ⟨nm.toArray⟩ (hb.all (below_drewN (Below.refl _ w) q)) (by show nm.toArray.size ≤ maxLen; rw [List.size_toArray]; exact hs) (x := ⟨y, y, []⟩) (by show b'.look nm = _; rw [lb]; exact hy)
theorem Two.read_a {own : Own} {w1 w : World} {fa fb : Nat} {a b : Dk} {K : Nat} {Al Am : Option Addr} {L : Nat} {vs : List Value} (h : Two own w1 w fa fb a b K Al Am L vs) (nm y : List UInt8) (hs : nm.length ≤ maxLen) (hy : a.look nm = some ⟨y, y, []⟩) (hK : K + 1 ≤ 1073741824) :
    Calls Tryz.prog 68 #[.pointer (some ⟨fa, 0, none⟩), .string ⟨nm.toArray⟩, .int .i64 0, .int .i64 (y.length : Int)] w fun e w' => ∃ A c, e = .returned (.tuple #[.slice A y.length c, .int .i64 0]) ∧ Two own w1 w' fa fb a b (K + 1) Al Am L vs ∧ Free own w' A y.length (bvs y) := by
  obtain ⟨a', ha, la⟩ := h.a
  obtain ⟨b', hb, lb⟩ := h.b
  refine (read_look (x := ⟨y, y, []⟩) ⟨nm.toArray⟩ 0 y.length ha (by show nm.toArray.size ≤ maxLen; rw [List.size_toArray]; exact hs) (by show a'.look nm = _; rw [la]; exact hy) (by show 0 + y.length ≤ y.length; omega) hK).mono ?_
  rintro e w' ⟨v, rfl, hr, h1, st⟩
  obtain ⟨A, c, rfl, _, _⟩ := own_form hr
  have e0 : (y.drop 0).take y.length = y := by rw [List.drop_zero, List.take_length]
  rw [e0] at hr
  exact ⟨A, c, rfl, ⟨⟨_, h1, la⟩, ⟨b', (hb.other st h.ne h1.top).mono (by omega) hK, lb⟩, h.ne, h.l.step st, h.m.step st⟩, ha.answer hr⟩
theorem Two.read_b {own : Own} {w1 w : World} {fa fb : Nat} {a b : Dk} {K : Nat} {Al Am : Option Addr} {L : Nat} {vs : List Value} (h : Two own w1 w fa fb a b K Al Am L vs) (nm y : List UInt8) (hs : nm.length ≤ maxLen) (hy : b.look nm = some ⟨y, y, []⟩) (hK : K + 1 ≤ 1073741824) {A1 : Option Addr} (hx : Free own w A1 y.length (bvs y)) :
    Calls Tryz.prog 68 #[.pointer (some ⟨fb, 0, none⟩), .string ⟨nm.toArray⟩, .int .i64 0, .int .i64 (y.length : Int)] w fun e w' => ∃ A c, e = .returned (.tuple #[.slice A y.length c, .int .i64 0]) ∧ Two own w1 w' fa fb a b (K + 1) Al Am L vs ∧ Free own w' A y.length (bvs y) ∧ Free own w' A1 y.length (bvs y) := by
  obtain ⟨a', ha, la⟩ := h.a
  obtain ⟨b', hb, lb⟩ := h.b
  refine (read_look (x := ⟨y, y, []⟩) ⟨nm.toArray⟩ 0 y.length hb (by show nm.toArray.size ≤ maxLen; rw [List.size_toArray]; exact hs) (by show b'.look nm = _; rw [lb]; exact hy) (by show 0 + y.length ≤ y.length; omega) hK).mono ?_
  rintro e w' ⟨v, rfl, hr, h1, st⟩
  obtain ⟨A, c, rfl, _, _⟩ := own_form hr
  have e0 : (y.drop 0).take y.length = y := by rw [List.drop_zero, List.take_length]
  rw [e0] at hr
  exact ⟨A, c, rfl, ⟨⟨a', (ha.other st h.ne.symm h1.top).mono (by omega) hK, la⟩, ⟨_, h1, lb⟩, h.ne, h.l.step st, h.m.step st⟩, hb.answer hr, hx.step st⟩
end Go.Proofs.YtcmlchicpmnhdaaGreatDoor.Disk
/-
  Several disks in one memory, read and never changed: what each holds, name by name; rows that are no disk's stay as they are.
-/
namespace Go.Proofs.YtcmlchicpmnhdaaGreatDoor.Mix
open Go.RowKit Go.Maps Go.Proofs.YtcmlchicpmnhdaaGreatDoor.Disk
set_option linter.unusedVariables false
set_option linter.unusedSimpArgs false

/-- Disks were read, memory was made: nothing else was changed. -/
structure Rd (own : Own) (w w' : World) : Prop where
  os : w'.os = w.os
  tape : w'.tape = w.tape
  output : w'.output = w.output
  size : w.heap.size ≤ w'.heap.size
  block : ∀ b, b < w.heap.size → own b = none → w'.heap[b]? = w.heap[b]?
theorem Rd.refl (own : Own) (w : World) : Rd own w w := ⟨rfl, rfl, rfl, Nat.le_refl _, fun _ _ _ => rfl⟩
theorem Rd.trans {own : Own} {w w' w'' : World} (h : Rd own w w') (k : Rd own w' w'') : Rd own w w'' :=
  ⟨k.os.trans h.os, k.tape.trans h.tape, k.output.trans h.output, Nat.le_trans h.size k.size, fun b hb ho => (k.block b (Nat.lt_of_lt_of_le hb h.size) ho).trans (h.block b hb ho)⟩
theorem Rd.of_below {own : Own} {w w' : World} (h : Below w.heap.size w w') : Rd own w w' := ⟨h.os, h.tape, h.output, h.size, fun b hb _ => h.block b hb⟩
theorem Rd.of_step {own : Own} {f : Nat} {w w' : World} (h : Step own own f w w') : Rd own w w' := ⟨h.os, h.tape, h.output, h.size, fun b hb ho => h.block b hb (fun g e => by rw [ho] at e; cases e)⟩
theorem free_rd {own : Own} {w w' : World} {A : Option Addr} {n : Nat} {vs : List Value} (h : Free own w A n vs) (hr : Rd own w w') : Free own w' A n vs := by
  refine ⟨h.1, fun hn => ?_⟩
  obtain ⟨b, o, rfl, ho, hb, hc⟩ := h.2 hn
  exact ⟨b, o, rfl, ho, Nat.lt_of_lt_of_le hb hr.size, fun i v hv => (World.cell?_of_block (a := ⟨b, o + i, none⟩) (hr.block b hb ho)).trans (hc i v hv)⟩
/-- What stands in a file; nothing where there is none. -/
def text (d : Dk) (n : Nm) : List UInt8 := ((d.look n).map Fl.now).getD []
/-- A disk among others: where it lies, the world before it, its files' names, what stands in each. -/
structure Ent where
  f : Nat
  w0 : World
  ns : List Nm
  T : Nm → List UInt8
structure Dks (own : Own) (w : World) (K : Nat) (L : List Ent) : Prop where
  one : ∀ p ∈ L, ∀ q ∈ L, p.f = q.f → p = q
  disk : ∀ p ∈ L, ∃ d, Held own p.w0 w p.f d K ∧ d.N.map (·.1) = p.ns ∧ ∀ n, text d n = p.T n
theorem Dks.all {own : Own} {w w' : World} {K : Nat} {L : List Ent} (h : Dks own w K L) (hb : Below w.heap.size w w') : Dks own w' K L :=
  ⟨h.one, fun p hp => by obtain ⟨d, h1, h2, h3⟩ := h.disk p hp; exact ⟨d, h1.all hb, h2, h3⟩⟩
theorem Dks.mono {own : Own} {w : World} {K K' : Nat} {L : List Ent} (h : Dks own w K L) (hK : K ≤ K') (hb : K' ≤ 1073741824) : Dks own w K' L :=
  ⟨h.one, fun p hp => by obtain ⟨d, h1, h2, h3⟩ := h.disk p hp; exact ⟨d, h1.mono hK hb, h2, h3⟩⟩
theorem Dks.top {own : Own} {w : World} {K : Nat} {L : List Ent} (h : Dks own w K L) {p : Ent} (hp : p ∈ L) : ∀ b q, own b = some q → b < w.heap.size := by
  obtain ⟨d, h1, _⟩ := h.disk p hp
  exact h1.top
theorem Dks.read {own : Own} {w w' : World} {K k : Nat} {L : List Ent} {p : Ent} {d : Dk} (h : Dks own w K L) (hp : p ∈ L) (h2 : d.N.map (·.1) = p.ns) (h3 : ∀ n, text d n = p.T n) (h1 : Held own p.w0 w' p.f (d.read k) (K + 1)) (hs : Step own own p.f w w') (hK : K + 1 ≤ 1073741824) : Dks own w' (K + 1) L := by
  refine ⟨h.one, fun q hq => ?_⟩
  by_cases e : q.f = p.f
  · obtain rfl := h.one q hq p hp e
    exact ⟨d.read k, h1, h2, h3⟩
  · obtain ⟨d2, k1, k2, k3⟩ := h.disk q hq
    exact ⟨d2, (k1.other hs e (fun b x hx => Nat.lt_of_lt_of_le (k1.top b x hx) hs.size)).mono (Nat.le_succ _) hK, k2, k3⟩
/-- A row of the call's own is no disk's. -/
theorem Dks.row {own : Own} {w w' : World} {K : Nat} {L : List Ent} (h : Dks own w K L) {p : Ent} (hp : p ∈ L) {t : TypeId} {A : Option Addr} {n c : Nat} {xs : List Value} (hr : w'.ownsRow w.heap.size t 1 (.slice A n c) n xs) : Free own w' A n xs := by
  obtain ⟨d, h1, _⟩ := h.disk p hp
  exact h1.laid hr
set_option maxRecDepth 100000 in
set_option maxHeartbeats 4000000 in
theorem whole_any {own : Own} {w : World} {K : Nat} {L : List Ent} {p : Ent} (s : ByteArray) (h : Dks own w K L) (hp : p ∈ L) (hs : s.size ≤ maxLen) (hK : K + 1 ≤ 1073741824) :
    Calls Tryz.prog 37 #[.pointer (some ⟨p.f, 0, none⟩), .string s] w fun e w' => ∃ A c, e = .returned (.slice A (p.T s.data.toList).length c) ∧ (p.T s.data.toList).length ≤ c ∧ c ≤ maxLen ∧ (p.T s.data.toList).length ≤ 4194304 ∧ Free own w' A (p.T s.data.toList).length (bvs (p.T s.data.toList)) ∧ Dks own w' (K + 1) L ∧ Rd own w w' := by
  obtain ⟨d, h1, h2, h3⟩ := h.disk p hp
  have ht := h3 s.data.toList
  have hnil : Free own w none 0 (bvs []) := ⟨rfl, fun h => absurd h (by omega)⟩
  unfold text at ht
  cases hx : d.look s.data.toList with
  | none =>
    rw [hx] at ht
    have e0 : p.T s.data.toList = [] := ht.symm
    rw [e0]
    have C := Lib.hid (size_lost s h1 hs hx)
    have HD := Lib.hid (h.mono (Nat.le_succ K) hK)
    clear h1 h2 h3 ht hx h
    go_enter Tryz.func37, Tryz.ntmps37
    go_wp2_with (go_at_call 45; refine C.out.mono ?_; rintro e w' ⟨rfl, rfl⟩)
    go_ret
    exact ⟨none, 0, rfl, Nat.le_refl _, by decide, by decide, hnil, HD.out, Rd.refl _ _⟩
  | some x =>
    rw [hx] at ht
    have e0 : p.T s.data.toList = x.now := ht.symm
    rw [e0]
    have hmax := (h1.ok hx).max
    have C := Lib.hid (size_look s h1 hs hx)
    obtain ⟨N, hN⟩ : ∃ N, N = x.now.length := ⟨_, rfl⟩
    have C2 := Lib.hid (read_look s 0 N h1 hs hx (by omega) hK)
    rw [List.drop_zero, hN, List.take_length] at C2
    rw [← hN] at C C2 hmax ⊢
    have HD := Lib.hid h
    have H2 := Lib.hid h2
    have H3 := Lib.hid h3
    have HP := Lib.hid hp
    have HT := Lib.hid (h.mono (Nat.le_succ K) hK)
    have HNL := Lib.hid hN
    clear h1 h2 h3 ht hx h hN
    by_cases h0 : N < 1
    · obtain rfl : N = 0 := by omega
      have e1 : x.now = [] := List.eq_nil_of_length_eq_zero HNL.out.symm
      go_enter Tryz.func37, Tryz.ntmps37
      go_wp2_with (go_at_call 45; refine C.out.mono ?_; rintro e w' ⟨rfl, rfl⟩)
      go_ret
      rw [e1]
      exact ⟨none, 0, rfl, Nat.le_refl _, by decide, by decide, hnil, HT.out, Rd.refl _ _⟩
    · have h0' : ¬ (N : Int) < 1 := by omega
      go_enter Tryz.func37, Tryz.ntmps37
      go_wp2_with (first
        | (go_at_call 45; refine C.out.mono ?_; rintro e w' ⟨rfl, rfl⟩)
        | (go_at_call 68; refine C2.out.mono ?_; rintro e w2 ⟨v, rfl, ho, hd, hst⟩; have HO := Lib.hid ho; have HH := Lib.hid hd; have HS := Lib.hid hst; clear ho hd hst))
      go_ret
      obtain ⟨A, c, rfl, hnc, hc⟩ := own_form HO.out
      exact ⟨A, c, rfl, hnc, hc, hmax, HD.out.row HP.out HO.out, HD.out.read HP.out H2.out H3.out HH.out HS.out hK, Rd.of_step HS.out⟩
end Go.Proofs.YtcmlchicpmnhdaaGreatDoor.Mix
/-
  Proved: what had of law 8 says: where it says yes, the bytes stand at that place of a file of one of the two disks.
-/
namespace Go.Proofs.YtcmlchicpmnhdaaGreatDoor.Mix
open Go.RowKit Go.Maps Go.Proofs.YtcmlchicpmnhdaaGreatDoor.Disk
open Go.Proofs.YtcmlchicpmnhdaaGreatDoor.Rec (str conv_row text_eq below_alloc)
set_option linter.unusedVariables false
set_option linter.unusedSimpArgs false

/-- Bytes stand at a place of a file of a disk. -/
def Stands (p : Ent) (a : Nat) (x : List UInt8) : Prop := ∃ n ∈ p.ns, a + x.length ≤ (p.T n).length ∧ ((p.T n).drop a).take x.length = x
theorem free_row {own : Own} {w : World} {A : Option Addr} {n : Nat} {vs : List Value} (h : Free own w A n vs) : Row w w.heap.size A n vs := Free.row h
theorem names_dks {own : Own} {w : World} {K : Nat} {L : List Ent} {p : Ent} (h : Dks own w K L) (hp : p ∈ L) :
    Calls Tryz.prog 36 #[.pointer (some ⟨p.f, 0, none⟩)] w fun e w' => ∃ A c, e = .returned (.slice A p.ns.length c) ∧ p.ns.length ≤ c ∧ c ≤ maxLen ∧ Free own w' A p.ns.length (p.ns.map encStr) ∧ Below w.heap.size w w' := by
  obtain ⟨d, h1, h2, h3⟩ := h.disk p hp
  refine (names_held h1).mono ?_
  rintro e w' ⟨v, rfl, ho, hb⟩
  have hl : d.N.length = p.ns.length := by rw [← h2, List.length_map]
  rw [h2, hl] at ho
  obtain ⟨A, c, rfl, hnc, hc⟩ := own_form ho
  exact ⟨A, c, rfl, hnc, hc, h.row hp ho, hb⟩
theorem two_free {own : Own} {w : World} (ht : ∀ b q, own b = some q → b < w.heap.size) (t : TypeId) (a b : Value) : Free own (w.alloc (.cells #[a, b] t)) (some ⟨w.heap.size, 0, none⟩) 2 [a, b] := by
  refine ⟨rfl, fun _ => ⟨w.heap.size, 0, rfl, ?_, by simp, fun i v hv => ?_⟩⟩
  · cases h : own w.heap.size with
    | none => rfl
    | some q => have := ht _ _ h; omega
  · rw [Nat.zero_add, cell_of_row _ w.heap.size i #[a, b] t (0, 0) (heap_alloc_new w _), ← Array.getElem?_toList]
    exact hv
theorem free_cell {own : Own} {w : World} {b o n : Nat} {vs : List Value} (h : Free own w (some ⟨b, o, none⟩) n vs) (i : Nat) (v : Value) (hv : vs[i]? = some v) : w.cell? ⟨b, o + i, none⟩ = some v := by
  have hi : 0 < n := by
    have := (List.getElem?_eq_some_iff.1 hv).1
    have := h.1
    omega
  obtain ⟨b', o', e, _, _, hc⟩ := h.2 hi
  injection e with e
  injection e with e1 e2
  subst e1 e2
  exact hc i v hv
set_option maxRecDepth 100000 in
set_option maxHeartbeats 8000000 in
theorem had_any {own : Own} {w : World} {K M : Nat} {L : List Ent} {p q : Ent} (a : Nat) (x : List UInt8) (X : Option Addr) (m c : Nat) (h : Dks own w K L) (hp : p ∈ L) (hq : q ∈ L)
    (hnp : p.ns.length ≤ M) (hnq : q.ns.length ≤ M) (hsp : ∀ n ∈ p.ns, n.length ≤ maxLen) (hsq : ∀ n ∈ q.ns, n.length ≤ maxLen) (hK : K + 2 * M ≤ 1000000000) (ha : a ≤ 8388608)
    (hX : Free own w X m (bvs x)) (hm : 0 < m) (hm2 : m ≤ 8388608) (hmc : m ≤ c) (hcm : c ≤ maxLen) :
    Calls Tryz.prog 39 #[.pointer (some ⟨p.f, 0, none⟩), .pointer (some ⟨q.f, 0, none⟩), .int .i64 (a : Int), .slice X m c] w fun e w' => ∃ t, e = .returned (.bool t) ∧ Dks own w' (K + 2 * M) L ∧ Rd own w w' ∧ (t = true → Stands p a x ∨ Stands q a x) := by
  have hxl : x.length = m := by have := hX.1; rwa [bvs_length] at this
  obtain ⟨w1, hw1⟩ : ∃ w1, w1 = w.alloc (.cells #[.pointer (some ⟨p.f, 0, none⟩), .pointer (some ⟨q.f, 0, none⟩)] 25) := ⟨_, rfl⟩
  have hF : Free own w1 (some ⟨w.heap.size, 0, none⟩) 2 [.pointer (some ⟨p.f, 0, none⟩), .pointer (some ⟨q.f, 0, none⟩)] := by rw [hw1]; exact two_free (h.top hp) _ _ _
  have hb1 : Below w.heap.size w w1 := by rw [hw1]; exact below_alloc w _
  have HF := Lib.hid hF
  have HD1 := Lib.hid (h.all hb1)
  have HR1 := Lib.hid (Rd.of_below (own := own) hb1)
  have HX1 := Lib.hid (free_rd hX (Rd.of_below hb1))
  have HXL := Lib.hid hxl
  have HP := Lib.hid hp
  have HQ := Lib.hid hq
  have HSP := Lib.hid hsp
  have HSQ := Lib.hid hsq
  clear h hX hF hb1 hxl hp hq hsp hsq
  go_enter Tryz.func39, Tryz.ntmps39
  go_upto_region 2 with fail
  rw [← hw1]
  clear hw1
  go_loopw [18] (fun v wr => ∃ (j K' : Nat), v = .int .i64 (j : Int) ∧ j ≤ 2 ∧ K' ≤ K + j * M ∧ Hid (Dks own wr K' L) ∧ Hid (Rd own w1 wr)) (fun v _ => 2 - (RowKit.intOf v).toNat)
  case atStart => exact ⟨0, K, rfl, Nat.zero_le _, by omega, HD1, Rd.refl _ _⟩
  case round =>
    obtain ⟨j, K', rfl, hj, hK', HD, HR⟩ := hrel
    by_cases hj2 : j < 2
    · obtain ⟨r, hr⟩ : ∃ r : Ent, r = if j = 0 then p else q := ⟨_, rfl⟩
      have hrL : r ∈ L := by rw [hr]; split; exact HP.out; exact HQ.out
      have hrn : r.ns.length ≤ M := by rw [hr]; split <;> assumption
      have hrs : ∀ n ∈ r.ns, n.length ≤ maxLen := by rw [hr]; split; exact HSP.out; exact HSQ.out
      have hpr : ∀ {t : Prop}, Stands r a x → Stands p a x ∨ Stands q a x := by
        intro _ h
        rw [hr] at h
        split at h
        · exact .inl h
        · exact .inr h
      have hcell : wr.cell? ⟨w.heap.size, j, none⟩ = some (.pointer (some ⟨r.f, 0, none⟩)) := by
        have := free_cell (free_rd HF.out HR.out) j (.pointer (some ⟨r.f, 0, none⟩)) (by
          rcases (show j = 0 ∨ j = 1 by omega) with rfl | rfl
          · rw [hr]; rfl
          · rw [hr]; rfl)
        rwa [Nat.zero_add] at this
      have HPR := Lib.hid (fun h : Stands r a x => hpr (t := True) h)
      have HRL := Lib.hid hrL
      have HRS := Lib.hid hrs
      have CN := Lib.hid (names_dks HD.out hrL)
      obtain ⟨S, hS⟩ : ∃ S, S = r.ns.length := ⟨_, rfl⟩
      rw [← hS] at CN hrn
      have HSL := Lib.hid hS
      clear hr hrL hrs hpr hS
      go_upto_region 6 with (go_at_call 36; refine CN.out.mono ?_; rintro e w3 ⟨A3, c3, rfl, hn3, hc3, hf3, hb3⟩)
      have hcm3 : c3 ≤ 9223372036854775807 := by unfold maxLen at hc3; exact hc3
      have HD3 := Lib.hid (HD.out.all hb3)
      have HR3 := Lib.hid (HR.out.trans (Rd.of_below hb3))
      have HF3 := Lib.hid hf3
      clear CN hb3 hf3 HD HR hc3
      go_loopw [12] (fun v wr => ∃ (i K'' : Nat), v = .int .i64 (i : Int) ∧ i ≤ S ∧ K'' ≤ K' + i ∧ Hid (Dks own wr K'' L) ∧ Hid (Rd own w3 wr)) (fun v _ => S - (RowKit.intOf v).toNat)
      case atStart => exact ⟨0, K', rfl, Nat.zero_le _, Nat.le_refl _, HD3, Rd.refl _ _⟩
      case round =>
        obtain ⟨i, K'', rfl, hi, hK'', HD, HR⟩ := hrel
        by_cases hlt : i < S
        · obtain ⟨b3, o3, rfl, _, _, _⟩ := HF3.out.2 (by omega)
          obtain ⟨nm, hnm⟩ : ∃ nm, r.ns[i]? = some nm := ⟨r.ns[i]'(by rw [← HSL.out]; exact hlt), List.getElem?_eq_getElem _⟩
          have hcell3 : wr.cell? ⟨b3, o3 + i, none⟩ = some (.string (str nm)) := free_cell (free_rd HF3.out HR.out) i _ (by rw [List.getElem?_map, hnm]; rfl)
          have hmem := List.mem_of_getElem? hnm
          have CW0 := whole_any (str nm) HD.out HRL.out (by show nm.toArray.size ≤ maxLen; rw [List.size_toArray]; exact HRS.out nm hmem) (show K'' + 1 ≤ 1073741824 by
            have : j * M ≤ 2 * M := Nat.mul_le_mul_right _ (by omega)
            have : j * M + M ≤ 2 * M := by
              have := Nat.mul_le_mul_right M (show j + 1 ≤ 2 by omega)
              rw [Nat.add_mul, Nat.one_mul] at this
              exact this
            omega)
          have e0 : (str nm).data.toList = nm := rfl
          rw [e0] at CW0
          obtain ⟨y, hy⟩ : ∃ y, y = r.T nm := ⟨_, rfl⟩
          obtain ⟨Y, hY⟩ : ∃ Y, Y = y.length := ⟨_, rfl⟩
          rw [← hy, ← hY] at CW0
          have CW := Lib.hid CW0
          have HYY := Lib.hid hY
          have HY := Lib.hid hy
          have HM := Lib.hid hmem
          clear CW0 hy hY hmem hnm e0
          go_upto_region 9 with (go_at_call 37; refine CW.out.mono ?_; rintro e w5 ⟨A5, c5, rfl, hyc, hyc2, hym, hf5, hd5, hr5⟩; have HF5 := Lib.hid hf5; have HD5 := Lib.hid hd5; have HR5 := Lib.hid (HR.out.trans hr5); clear hf5 hd5 hr5)
          have hcm5 : c5 ≤ 9223372036854775807 := by unfold maxLen at hyc2; exact hyc2
          clear CW hyc2
          by_cases hge : a + m ≤ Y
          · obtain ⟨yb, yo, rfl, _, _, _⟩ := HF5.out.2 (by omega)
            have j1 : (m : Int) ≤ (Y : Int) - (a : Int) := by omega
            have j2 : decide ((m : Int) ≤ (Y : Int) - (a : Int)) = true := decide_eq_true j1
            have j3 : ¬ c5 = a := by omega
            obtain ⟨s1, hs1⟩ : ∃ s1, s1 = str ((y.drop a).take m) := ⟨_, rfl⟩
            obtain ⟨s2, hs2⟩ : ∃ s2, s2 = str x := ⟨_, rfl⟩
            have HS1 := Lib.hid hs1
            have HS2 := Lib.hid hs2
            obtain ⟨tt, htt⟩ : ∃ tt, tt = decide ((y.drop a).take m = x) := ⟨_, rfl⟩
            have hte : (s1.toList == s2.toList) = tt := by
              rw [text_eq, hs1, hs2, htt]
              refine decide_eq_decide.2 ⟨fun h => ?_, fun h => by rw [h]⟩
              have := congrArg (fun b : ByteArray => b.data.toList) h
              exact this
            have cv1 : ∀ k, (convert 51 9 (.slice (some ⟨yb, yo + a, none⟩) m (c5 - a))).run Tryz.prog (w5.drewN k) = .ok (.string s1) (w5.drewN k) := fun k => by
              have h0 := (free_row HF5.out).drop (k := a) (by omega)
              rw [bvs_drop] at h0
              have h1 := h0.take (k := m) (by omega)
              rw [bvs_take] at h1
              exact conv_row (B := w5.heap.size) (h1.below (below_drewN (Below.refl _ _) k)) HS1
            have HX5 := free_rd HX1.out (HR3.out.trans HR5.out)
            have cv2 : ∀ k, (convert 51 9 (.slice X m c)).run Tryz.prog (w5.drewN k) = .ok (.string s2) (w5.drewN k) := fun k => conv_row (B := w5.heap.size) ((free_row HX5).below (below_drewN (Below.refl _ _) k)) HS2
            have HTT := Lib.hid htt
            clear htt hs1 hs2 HX5
            go_quiet (fail)
            have HD6 := Lib.hid (HD5.out.all (below_drewN (Below.refl _ _) nq))
            have HR6 := Lib.hid (HR5.out.trans (Rd.of_below (own := own) (below_drewN (Below.refl _ _) nq)))
            clear cv1 cv2 hte
            go_upto_if 55 with fail
            have hKK : K'' + 1 ≤ K + 2 * M := by
              have := Nat.mul_le_mul_right M (show j + 1 ≤ 2 by omega)
              rw [Nat.add_mul, Nat.one_mul] at this
              omega
            cases tt with
            | true =>
              have hst : Stands r a x := ⟨nm, HM.out, by rw [← HY.out, HXL.out, ← HYY.out]; exact hge, by rw [← HY.out, HXL.out]; exact of_decide_eq_true HTT.out.symm⟩
              have HST := Lib.hid hst
              have HKK := Lib.hid hKK
              clear hst hKK
              go_wp2_with fail
              go_ret
              exact ⟨true, rfl, HD6.out.mono HKK.out (by omega), HR1.out.trans (HR3.out.trans HR6.out), fun _ => HPR.out HST.out⟩
            | false =>
              clear hKK
              go_wp2_with fail
              go_roundw
              case rel => exact ⟨i + 1, K'' + 1, by go_num, by omega, by omega, HD6, HR6⟩
              case measure => (simp [RowKit.intOf]; omega)
          · have j1 : ¬ (m : Int) ≤ (Y : Int) - (a : Int) := by omega
            have j2 : decide ((m : Int) ≤ (Y : Int) - (a : Int)) = false := decide_eq_false j1
            go_quiet (fail)
            have HD6 := Lib.hid (HD5.out.all (below_drewN (Below.refl _ _) nq))
            have HR6 := Lib.hid (HR5.out.trans (Rd.of_below (own := own) (below_drewN (Below.refl _ _) nq)))
            go_wp2_with fail
            go_roundw
            case rel => exact ⟨i + 1, K'' + 1, by go_num, by omega, by omega, HD6, HR6⟩
            case measure => (simp [RowKit.intOf]; omega)
        · obtain rfl : i = S := by omega
          go_wp2_with fail
          go_roundw
          case rel => exact ⟨j + 1, K'', by go_num, by omega, by rw [Nat.add_mul, Nat.one_mul]; omega, HD, HR3.out.trans HR.out⟩
          case measure => (simp [RowKit.intOf]; omega)
    · obtain rfl : j = 2 := by omega
      go_wp2_with fail
      go_ret
      exact ⟨false, rfl, HD.out.mono hK' (by omega), HR1.out.trans HR.out, fun h => by cases h⟩
end Go.Proofs.YtcmlchicpmnhdaaGreatDoor.Mix
/-
  Proved: what the reference's All and Front return: the records that stand in a list of bytes.
  Conditions: the slice reads as bytes, not too many.
-/
namespace Go.Proofs.YtcmlchicpmnhdaaGreatDoor.Rec
open Go.RowKit
set_option linter.unusedVariables false
set_option linter.unusedSimpArgs false

end Go.Proofs.YtcmlchicpmnhdaaGreatDoor.Rec
/-
  Proved: what the reference's Front returns: the records one behind the other at the front of a list of bytes, and how many bytes they take.
  Conditions: the slice reads as bytes, not too many.
-/
namespace Go.Proofs.YtcmlchicpmnhdaaGreatDoor.Rec
open Go.RowKit
set_option linter.unusedVariables false
set_option linter.unusedSimpArgs false

theorem endOf_snoc (l : List (Nat × Rc)) (p q : Nat) (x : Rc) : endOf p (l ++ [(q, x)]) = q + (39 + x.body.length) := by
  induction l generalizing p with
  | nil => rfl
  | cons z l ih => exact ih _
set_option maxRecDepth 100000 in
set_option maxHeartbeats 8000000 in
theorem reffront_some (b o n c : Nat) (bs : List UInt8) (w : World) (hR : Row w w.heap.size (some ⟨b, o, none⟩) n (bvs bs)) (hnc : n ≤ c) (hc : c ≤ maxLen) (hn : n ≤ 8388608) :
    Calls Tryz.prog 38 #[.slice (some ⟨b, o, none⟩) n c] w fun e w' => ∃ v, e = .returned (.tuple #[v, .int .i64 ((endOf 0 (frontFrom 0 bs) : Nat) : Int)]) ∧ Fd w 93 w' v (frontFrom 0 bs) := by
  have hcm : c ≤ 9223372036854775807 := by unfold maxLen at hc; exact hc
  have HL := Lib.hid hR.size
  have HR := Lib.hid hR
  have HNC := Lib.hid hnc
  have HC := Lib.hid hc
  have hz := zeroRec
  clear hR hc
  go_enter Tryz.func38, Tryz.ntmps38
  go_wp2_with fail
  go_loopw [4, 5] (fun v i wr => ∃ (p : Nat) (l : List (Nat × Rc)), i = .int .i64 (p : Int) ∧ p ≤ n ∧ l.length ≤ p ∧ Hid (Fd w 93 wr v l) ∧ Hid (l ++ frontFrom p bs = frontFrom 0 bs) ∧ Hid (endOf 0 l = p)) (fun _ i _ => n - (RowKit.intOf i).toNat)
  case atStart => exact ⟨0, [], rfl, Nat.zero_le _, Nat.le_refl _, Fd.nil w _, rfl, rfl⟩
  case round =>
    obtain ⟨p, l, rfl, hp, hlp, HF, HA, HE⟩ := hrel
    obtain ⟨P, hP⟩ : ∃ P, (if c = p then some (⟨b, o, none⟩ : Addr) else some ⟨b, o + p, none⟩) = P := ⟨_, rfl⟩
    have hpc : (p : Int) ≤ (c : Int) := by omega
    have hpn : (p : Int) ≤ (n : Int) := by omega
    have hrow := row_upto (HR.out.below HF.out.below) hp HNC.out hP
    have CD := Lib.hid (refdecode_any P (n - p) (c - p) (bs.drop p) wr (hrow.more HF.out.below.size) (by omega) (by have := HC.out; omega))
    clear hrow
    rcases out_ok (dec (bs.drop p)) with ⟨x, m, hd⟩ | ⟨e, he, hv, hno⟩
    · obtain ⟨hm, hml, _⟩ := dec_ok hd
      have hml' : p + m ≤ n := by rw [List.length_drop] at hml; have := HL.out; omega
      have HA2 : Hid ((l ++ [(p, x)]) ++ frontFrom (p + m) bs = frontFrom 0 bs) := by
        have h := HA.out
        rw [frontFrom_ok hd] at h
        show _ = _
        rw [List.append_assoc]
        exact h
      have HE2 : Hid (endOf 0 (l ++ [(p, x)]) = p + m) := by show _ = _; rw [endOf_snoc, hm]
      have CD2 : Hid (Calls Tryz.prog 69 #[.slice P (n - p) (c - p)] wr fun e w' => e = .returned (.tuple #[.agg x.vals, .int .i64 (m : Int), .int .i64 0]) ∧ Below wr.heap.size wr w') := by
        have h := CD.out
        rw [hd] at h
        exact h
      have HM39 : Hid (39 ≤ m) := by show 39 ≤ m; omega
      have HML := Lib.hid hml'
      have hm6 : m ≤ 8388608 := by omega
      clear CD hd HA hm hml hml'
      go_upto_region 4 with (first
        | (go_at_call 69; refine CD2.out.mono ?_; rintro e w2 ⟨rfl, hb2⟩; have HF2 := Lib.hid (HF.out.all hb2); clear hb2)
        | (refine store_recN (zero_new w2) rfl rfl (.tmp 6) (.tmp 14) rfl rfl x rfl rfl ?_; intro w3 X3 G3))
      have HF3 : Hid (Fd w 93 w3 u4 l) := fd_store HF2.out G3.out
      clear G3
      have hl6 : l.length ≤ 100000000 := by omega
      have hone := one_cells w3 93 (0, 0) (p, x) (fcells (p, x)).toArray rfl
      have HF4 := Lib.hid (HF3.out.all (below_alloc w3 (.cells (fcells (p, x)).toArray 93)))
      have HONE := Lib.hid hone
      have HBF := Lib.hid (built_ref p x)
      have HBS := Lib.hid (slice_ref p x)
      obtain ⟨fc, hfc⟩ : ∃ fc, fc = (fcells (p, x)).toArray := ⟨_, rfl⟩
      rw [← hfc] at HF4 HONE HBF HBS
      clear hone hfc
      go_wp2_with (first
        | (refine load_rec X3.out rfl (.tmp 6) rfl rfl ?_)
        | (refine build_found rfl 93 (.tmp 22) (.tmp 23) rfl (some 24) rfl (.int .i64 (p : Int)) (.agg x.vals) rfl rfl fc HBF.out ?_)
        | (refine build_one rfl 86 93 (.tmp 24) rfl (some 25) rfl Tryz.underlying86 (.agg fc) rfl fc HBS.out ?_)
        | (at_builtin; refine fd_append HF4.out 86 _ 64 Tryz.underlying86 found_info rfl (by omega) rfl (.tmp 21) (.tmp 25) rfl rfl w3.heap.size 1 (p, x) rfl HONE.out hl6 ?_; intro v4 w4 HF5))
      go_roundw
      case rel => exact ⟨p + m, l ++ [(p, x)], by go_num, HML.out, by rw [List.length_append]; show l.length + 1 ≤ p + m; have := HM39.out; omega, HF5, HA2, HE2⟩
      case measure => (have := HM39.out; have := HML.out; simp [RowKit.intOf]; omega)
    · have HLE : Hid (l = frontFrom 0 bs) := by
        have h := HA.out
        rw [frontFrom_no hno, List.append_nil] at h
        exact h
      have CD2 : Hid (Calls Tryz.prog 69 #[.slice P (n - p) (c - p)] wr fun E w' => E = .returned (.tuple #[.agg zeroRc.vals, .int .i64 0, .int .i64 e]) ∧ Below wr.heap.size wr w') := by
        have h := CD.out
        rw [hv] at h
        exact h
      have he' : (e == 0) = false := beq_eq_false_iff_ne.2 he
      have he2 : (e != 0) = true := bne_iff_ne.2 he
      clear CD hno hv HA
      go_upto_region 4 with (first
        | (go_at_call 69; refine CD2.out.mono ?_; rintro E w2 ⟨rfl, hb2⟩; have HF2 := Lib.hid (HF.out.all hb2); clear hb2)
        | (refine store_recN (zero_new w2) rfl rfl (.tmp 6) (.tmp 14) rfl rfl zeroRc rfl rfl ?_; intro w3 X3 G3))
      have HF3 : Hid (Fd w 93 w3 u4 l) := fd_store HF2.out G3.out
      clear G3
      go_wp2_with fail
      go_ret2
      exact ⟨u4, by rw [← HLE.out, HE.out]; rfl, by rw [← HLE.out]; exact HF3.out⟩
set_option maxRecDepth 100000 in
set_option maxHeartbeats 8000000 in
theorem reffront_none (c : Nat) (w : World) (hc : c ≤ maxLen) :
    Calls Tryz.prog 38 #[.slice none 0 c] w fun e w' => ∃ v, e = .returned (.tuple #[v, .int .i64 0]) ∧ Fd w 93 w' v [] := by
  have hcm : c ≤ 9223372036854775807 := by unfold maxLen at hc; exact hc
  have hz := zeroRec
  have CD : Hid (∀ P, Calls Tryz.prog 69 #[.slice P 0 c] w fun E w' => E = .returned (.tuple #[.agg zeroRc.vals, .int .i64 0, .int .i64 11]) ∧ Below w.heap.size w w') := by
    intro P
    have h := refdecode_any P 0 c [] w empty_row (Nat.zero_le _) hc
    rw [dec_nil] at h
    exact h
  have HF := Lib.hid (Fd.nil w 93)
  clear hc
  go_enter Tryz.func38, Tryz.ntmps38
  go_wp2_with fail
  go_loopw [4, 5] (fun v i wr => v = .slice none 0 0 ∧ i = .int .i64 0 ∧ wr = w) (fun _ i _ => 0)
  case atStart => exact ⟨rfl, rfl, rfl⟩
  case round =>
    obtain ⟨rfl, rfl, rfl⟩ := hrel
    go_upto_region 4 with (first
        | (go_at_call 69; refine (CD.out _).mono ?_; rintro E w2 ⟨rfl, hb2⟩; have HF2 := Lib.hid (HF.out.all hb2); clear hb2)
        | (refine store_recN (zero_new w2) rfl rfl (.tmp 6) (.tmp 14) rfl rfl zeroRc rfl rfl ?_; intro w3 X3 G3))
    have HF3 : Hid (Fd wr 93 w3 (.slice none 0 0) []) := fd_store HF2.out G3.out
    clear G3
    go_wp2_with fail
    go_ret2
    exact ⟨_, rfl, HF3.out⟩
set_option maxRecDepth 100000 in
set_option maxHeartbeats 8000000 in
theorem reffront_zero (ad : Addr) (c : Nat) (w : World) (hc : c ≤ maxLen) :
    Calls Tryz.prog 38 #[.slice (some ad) 0 c] w fun e w' => ∃ v, e = .returned (.tuple #[v, .int .i64 0]) ∧ Fd w 93 w' v [] := by
  have hcm : c ≤ 9223372036854775807 := by unfold maxLen at hc; exact hc
  have hz := zeroRec
  have CD : Hid (∀ P, Calls Tryz.prog 69 #[.slice P 0 c] w fun E w' => E = .returned (.tuple #[.agg zeroRc.vals, .int .i64 0, .int .i64 11]) ∧ Below w.heap.size w w') := by
    intro P
    have h := refdecode_any P 0 c [] w empty_row (Nat.zero_le _) hc
    rw [dec_nil] at h
    exact h
  have HF := Lib.hid (Fd.nil w 93)
  clear hc
  go_enter Tryz.func38, Tryz.ntmps38
  go_wp2_with fail
  go_loopw [4, 5] (fun v i wr => v = .slice none 0 0 ∧ i = .int .i64 0 ∧ wr = w) (fun _ i _ => 0)
  case atStart => exact ⟨rfl, rfl, rfl⟩
  case round =>
    obtain ⟨rfl, rfl, rfl⟩ := hrel
    go_upto_region 4 with (first
        | (go_at_call 69; refine (CD.out _).mono ?_; rintro E w2 ⟨rfl, hb2⟩; have HF2 := Lib.hid (HF.out.all hb2); clear hb2)
        | (refine store_recN (zero_new w2) rfl rfl (.tmp 6) (.tmp 14) rfl rfl zeroRc rfl rfl ?_; intro w3 X3 G3))
    have HF3 : Hid (Fd wr 93 w3 (.slice none 0 0) []) := fd_store HF2.out G3.out
    clear G3
    go_wp2_with fail
    go_ret2
    exact ⟨_, rfl, HF3.out⟩
/-- .. whatever the slice. -/
theorem reffront_any (A : Option Addr) (n c : Nat) (bs : List UInt8) (w : World) (hR : Row w w.heap.size A n (bvs bs)) (hnc : n ≤ c) (hc : c ≤ maxLen) (hn : n ≤ 8388608) :
    Calls Tryz.prog 38 #[.slice A n c] w fun e w' => ∃ v, e = .returned (.tuple #[v, .int .i64 ((endOf 0 (frontFrom 0 bs) : Nat) : Int)]) ∧ Fd w 93 w' v (frontFrom 0 bs) := by
  rcases Nat.eq_zero_or_pos n with h0 | h0
  · subst h0
    obtain rfl : bs = [] := List.eq_nil_of_length_eq_zero hR.size
    rw [front_nil]
    cases A with
    | none => exact reffront_none c w hc
    | some ad => exact reffront_zero ad c w hc
  · obtain ⟨b, o, rfl, _, _⟩ := hR.2 h0
    exact reffront_some b o n c bs w hR hnc hc hn
end Go.Proofs.YtcmlchicpmnhdaaGreatDoor.Rec
/-
  Plain facts: a text under way as a row of the call's own; what stands in texts of records one behind the other.
-/
namespace Go.Proofs.YtcmlchicpmnhdaaGreatDoor.Rec
open Go.RowKit
set_option linter.unusedVariables false
set_option linter.unusedSimpArgs false

/-- A text under way. -/
structure Bf (w0 w : World) (v : Value) (bs : List UInt8) : Prop where
  row : w.ownsRow w0.heap.size 5 1 v bs.length (bvs bs)
  below : Below w0.heap.size w0 w
theorem Bf.nil (w : World) : Bf w w (.slice none 0 0) [] := ⟨World.ownsRow_nil _ _ _ _, Below.refl _ _⟩
theorem Bf.all {w0 w w' : World} {v : Value} {bs : List UInt8} (h : Bf w0 w v bs) (hb : Below w.heap.size w w') : Bf w0 w' v bs :=
  ⟨h.row.kept (row := none) ⟨hb.os, hb.tape, hb.output, hb.size, fun i hi _ => hb.block i hi⟩ (Classical.em _), h.below.trans (hb.mono h.below.size)⟩
theorem Bf.form {w0 w : World} {v : Value} {bs : List UInt8} (h : Bf w0 w v bs) : ∃ A c, v = .slice A bs.length c ∧ bs.length ≤ c ∧ c ≤ maxLen ∧ Row w w.heap.size A bs.length (bvs bs) := by
  obtain ⟨A, c, rfl, h1, h2⟩ := own_form h.row
  exact ⟨A, c, rfl, h1, h2, Row.own h.row⟩
section
variable {w0 w : World} {v : Value} {bs : List UInt8} {ops : Array Oper} {rest : List Oper} {o : Oper} {a : Act} {Q : Exit → Act → World → Prop}
theorem bf_append (h : Bf w0 w v bs) (hgd : o.guard = none) (s y : Operand) (ho : o.op = .call { callee := .builtin .append, args := #[s, y], argTypes := #[51, 51] }) (hs : a.eval s = v)
    (B : Nat) (A : Option Addr) (m c : Nat) (news : List UInt8) (hy : a.eval y = .slice A m c) (hr : Row w B A m (bvs news)) (hl : bs.length + m ≤ 1000000)
    (k : ∀ v' w', Hid (Bf w0 w' v' (bs ++ news)) → wpList Tryz.prog ops Q rest (a.put o.dst v') w') : wpList Tryz.prog ops Q (o :: rest) a w := by
  refine wpList_append_reads hgd s y 51 ho w0.heap.size 5 (.int .u8 0) 1 Tryz.underlying51 u8_info rfl v bs.length (bvs bs) hs h.row B A m c (bvs news) hy hr (bvs_one _) (by unfold maxLen; omega) (by omega) h.below.size ?_
  intro v' w' h1 h2
  refine k v' w' ⟨?_, own_below h.row h.below (Nat.le_refl _) h.below.size h2⟩
  have e : bvs bs ++ bvs news = bvs (bs ++ news) := by unfold bvs; rw [List.map_append]
  rw [e] at h1
  rw [List.length_append, hr.size]
  exact h1
theorem below_grows {w w' : World} (hg : w.grownBy w' none) : Below w.heap.size w w' := ⟨hg.os, hg.tape, hg.output, hg.size, fun i hi => hg.block i hi (by simp)⟩
/-- An append onto a full slice: a new row. -/
theorem bf_grows {w : World} (hgd : o.guard = none) (s y : Operand) (ho : o.op = .call { callee := .builtin .append, args := #[s, y], argTypes := #[51, 51] })
    (ad : Addr) (n cap B : Nat) (bs : List UInt8) (hs : a.eval s = .slice (some ad) n cap) (hr0 : Row w B (some ad) n (bvs bs))
    (B2 : Nat) (ad2 : Addr) (m c : Nat) (news : List UInt8) (hy : a.eval y = .slice (some ad2) m c) (hr : Row w B2 (some ad2) m (bvs news)) (hfull : cap < n + m) (hl : n + m ≤ 1000000)
    (k : ∀ v' w', Hid (Bf w w' v' (bs ++ news)) → wpList Tryz.prog ops Q rest (a.put o.dst v') w') : wpList Tryz.prog ops Q (o :: rest) a w := by
  obtain ⟨i, hii, hzz⟩ := Option.map_eq_some_iff.1 u8_info
  simp only [Prod.mk.injEq] at hzz
  obtain ⟨hz0, hs1, hb1⟩ := hzz
  refine wpList_append_grows w hgd s y 51 ho 5 i (.int .u8 0) 1 1 Tryz.underlying51 hii hz0 hs1 hb1 rfl (by decide) (some ad) n cap (bvs bs) hs (by simp) (by rw [bvs_length, hr0.size, Nat.mul_one]) (fun b hb => by obtain rfl := Option.some.inj hb; exact row_news hr0)
    ad2 m c (bvs news) hy (by rw [bvs_length, hr.size, Nat.mul_one]) (row_news hr) (bvs_one _) hfull (by unfold maxLen; omega) (by omega) ?_
  intro v' w' h1 h2
  refine k v' w' ⟨?_, below_grows h2⟩
  have e : bvs bs ++ bvs news = bvs (bs ++ news) := by unfold bvs; rw [List.map_append]
  rw [e] at h1
  rw [List.length_append, hr0.size, hr.size]
  exact h1
end
/-! What stands in texts. -/
theorem dec_head {bs : List UInt8} (h0 : 0 < bs.length) (h : bs.getD 0 0 ≠ 83) : ∀ x n, dec bs ≠ .ok x n := by
  intro x n e
  unfold dec at e
  rw [if_pos (fun hf : Front bs => h (hf.1 h0))] at e
  cases e
theorem dec_head2 {bs : List UInt8} (h0 : 1 < bs.length) (h : bs.getD 1 0 ≠ 82) : ∀ x n, dec bs ≠ .ok x n := by
  intro x n e
  unfold dec at e
  rw [if_pos (fun hf : Front bs => h (hf.2.1 h0))] at e
  cases e
theorem dec_short {bs : List UInt8} (h0 : bs.length < 39) : ∀ x n, dec bs ≠ .ok x n := by
  intro x n e
  have := dec_ok e
  omega
theorem dec_behind (pre rest : List UInt8) (x : Rc) (hm : x.May) (hf : x.Fits) {p : Nat} (hp : p = pre.length) : dec ((pre ++ (enc x ++ rest)).drop p) = .ok x (39 + x.body.length) := by
  subst hp
  rw [List.drop_left, enc_may hm, dec_bytes x rest hm hf]
theorem enc_length (x : Rc) (hm : x.May) : (enc x).length = 39 + x.body.length := by rw [enc_may hm, x.bytes_length]
end Go.Proofs.YtcmlchicpmnhdaaGreatDoor.Rec
