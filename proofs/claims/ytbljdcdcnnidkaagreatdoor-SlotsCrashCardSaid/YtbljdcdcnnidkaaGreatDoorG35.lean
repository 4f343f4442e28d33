/-
  Texts one behind the other: DiskAny, MixDisks.
-/
import Derived.Test.YtbljdcdcnnidkaaGreatDoorG27
/-
  Proved: steps of a law on a disk of which nothing is known but that it is one; a crash of a crash.
-/
namespace Go.Proofs.YtbljdcdcnnidkaaGreatDoor.Disk
open Go.RowKit Go.Maps
set_option linter.unusedVariables false
set_option linter.unusedSimpArgs false

/-- A call came back with a number, and the disk is held. -/
def Went (w0 : World) (f K : Nat) (e : Ending) (w' : World) : Prop := ∃ own' n d', e = .returned (.int .i64 n) ∧ Held own' w0 w' f d' K
theorem create_went {own : Own} {w0 w : World} {f K : Nat} {d : Dk} (s : ByteArray) (h : Held own w0 w f d K) (hs : s.size ≤ maxLen) (hK : K + 1 ≤ 1073741824) :
    Calls Tryz.prog 37 #[.pointer (some ⟨f, 0, none⟩), .string s] w (Went w0 f (K + 1)) := by
  refine (create_any s h.disk hs hK).mono ?_
  rintro e w' ⟨own', g, _, he, hd, hst⟩
  exact ⟨own', _, _, he, h.next hst hd⟩
theorem sync_went {own : Own} {w0 w : World} {f K : Nat} {d : Dk} (s : ByteArray) (h : Held own w0 w f d K) (hs : s.size ≤ maxLen) (hK : K + 1 ≤ 1073741824) :
    Calls Tryz.prog 24 #[.pointer (some ⟨f, 0, none⟩), .string s] w (Went w0 f (K + 1)) := by
  refine (sync_any s h.disk hs hK).mono ?_
  rintro e w' ⟨own', g, _, he, hd, hst⟩
  exact ⟨own', _, _, he, h.next hst hd⟩
theorem syncDir_went {own : Own} {w0 w : World} {f K : Nat} {d : Dk} (h : Held own w0 w f d K) (hK : K + 1 ≤ 1073741824) :
    Calls Tryz.prog 21 #[.pointer (some ⟨f, 0, none⟩)] w (Went w0 f (K + 1)) := by
  refine (syncDir_any h.disk hK).mono ?_
  rintro e w' ⟨own', g, _, he, hd, hst⟩
  exact ⟨own', _, _, he, h.next hst hd⟩
theorem write_went {own : Own} {w0 w : World} {f K : Nat} {d : Dk} (s : ByteArray) (a : Int) (h : Held own w0 w f d K) (hs : s.size ≤ maxLen) (hK : K + 1 ≤ 1073741824) (ha : -9223372036854775808 ≤ a ∧ a ≤ 9223372036854775807)
    {A : Option Addr} {m c : Nat} {bs : List UInt8} (hR : Row w0 w0.heap.size A m (bvs bs)) (hc : m ≤ c) (hcm : c ≤ maxLen) (hm : m ≤ 1099511627776) :
    Calls Tryz.prog 23 #[.pointer (some ⟨f, 0, none⟩), .string s, .int .i64 a, .slice A m c] w (Went w0 f (K + 1)) := by
  have hF := h.elder hR
  refine (write_any s a h.disk hs hK ha.1 ha.2 hF.row (Nat.le_refl _) (fun hm0 ad had g => by rw [hF.none_at hm0 ad had]; simp) hc hcm hm).mono ?_
  rintro e w' ⟨own', n, d', _, he, hd, hst⟩
  exact ⟨own', n, d', he, h.next hst hd⟩
set_option maxRecDepth 100000 in
theorem names_held {own : Own} {w0 w : World} {f K : Nat} {d : Dk} (h : Held own w0 w f d K) :
    Calls Tryz.prog 30 #[.pointer (some ⟨f, 0, none⟩)] w fun e w' => ∃ v, e = .returned v ∧ w'.ownsRow w.heap.size 9 1 v d.N.length ((d.N.map (·.1)).map encStr) ∧ Below w.heap.size w w' := by
  obtain ⟨nb, sb, wv, hd⟩ := h.disk
  have b1 : w.cell? ⟨f, 1, none⟩ = some (.map (some nb)) := Blk.cell hd.blk 1
  have CN := names_any hd.mapN (by have := hd.ok.N; have := hd.ok.big; omega)
  clear hd h
  go_enter Tryz.func30, Tryz.ntmps30
  go_wp2_with (go_at_call 27; refine CN.mono ?_; rintro e w' ⟨v, rfl, hrow, hb⟩)
  go_ret
  exact ⟨v, rfl, hrow, hb⟩
/-! A crash of a crash. -/
theorem dget_some {n : Nm} {N : Dir} (h : n ∈ N.map (·.1)) : ∃ g, dget n N = some g := by
  cases hg : dget n N with
  | some g => exact ⟨g, rfl⟩
  | none =>
    obtain ⟨p, hp, rfl⟩ := List.mem_map.1 h
    exact absurd rfl (dget_none hg p hp)
theorem crash_names (fl : Nat → Fl) (keep : List Bool) (torn : Int) : ∀ (k : Nat) (N : Dir), (crashFiles fl keep torn k N).map (·.1) = N.map (·.1)
  | _, [] => rfl
  | k, p :: r => by rw [crashFiles, List.map_cons, List.map_cons, crash_names]
theorem crash_find (fl : Nat → Fl) (keep : List Bool) (torn : Int) (n : Nm) (g : Nat) : ∀ (k : Nat) (N : Dir), dget n N = some g → ∃ parts, (crashFiles fl keep torn k N).find? (fun p => p.1 == n) = some (n, (fl g).crash parts)
  | _, [], h => by cases h
  | k, p :: r, h => by
    rw [crashFiles]
    by_cases hp : p.1 = n
    · rw [List.find?_cons_of_pos (by simpa using hp)]
      have e : dget n (p :: r) = some p.2 := by rw [dget, List.find?_cons_of_pos (by simpa using hp)]; rfl
      rw [e] at h
      obtain rfl := Option.some.inj h
      rw [hp]
      exact ⟨_, rfl⟩
    · rw [List.find?_cons_of_neg (by simpa using hp)]
      refine crash_find fl keep torn n g _ r ?_
      rw [dget, List.find?_cons_of_neg (by simpa using hp)] at h
      exact h
theorem files_names (d : Dk) : d.files.map (·.1) = d.N.map (·.1) := by
  rw [Dk.files, List.map_map]
  rfl
theorem Dk.Crashed.names {d a : Dk} {n : Int} {keep : List Bool} {torn : Int} (ha : d.Crashed a n keep torn) : a.N.map (·.1) = (d.crashDir n).map (·.1) := by
  rw [← files_names, ha.files, List.map_map]
  exact crash_names d.fl keep torn 0 (d.crashDir n)
theorem Dk.Crashed.clean {d a : Dk} {n : Int} {keep : List Bool} {torn : Int} (ha : d.Crashed a n keep torn) {p : Nm × Nat} (hp : p ∈ a.N) : ∃ y, a.fl p.2 = ⟨y, y, []⟩ := by
  have h1 : (p.1, a.fl p.2) ∈ a.files := List.mem_map.2 ⟨p, hp, rfl⟩
  rw [ha.files] at h1
  obtain ⟨q, _, hq⟩ := List.mem_map.1 h1
  injection hq with _ hq
  exact ⟨q.2, hq.symm⟩
theorem Dk.Crashed.again {d a : Dk} {n : Int} {keep : List Bool} {torn : Int} (ha : d.Crashed a n keep torn) (c : Int) : a.crashDir c = a.N := by
  rw [Dk.crashDir, ha.wait, ha.synced, List.take_nil]
  rfl
theorem Dk.Crashed.total {d a : Dk} {n : Int} {keep : List Bool} {torn : Int} (ha : d.Crashed a n keep torn) : total (fun g => (a.fl g).soiled.length) a.N = 0 := by
  unfold Disk.total
  rw [List.sum_eq_zero_iff_forall_eq_nat]
  intro x hx
  obtain ⟨p, hp, rfl⟩ := List.mem_map.1 hx
  obtain ⟨y, hy⟩ := ha.clean hp
  dsimp only
  rw [hy]
  rfl
theorem twice {d a b : Dk} {n : Int} {keep : List Bool} {torn : Int} (ha : d.Crashed a n keep torn) (hb : a.Crashed b 0 [] (-1)) :
    b.N.map (·.1) = a.N.map (·.1) ∧ ∀ nm ∈ a.N.map (·.1), ∃ y, a.look nm = some ⟨y, y, []⟩ ∧ b.look nm = some ⟨y, y, []⟩ := by
  refine ⟨by rw [hb.names, ha.again], fun nm hn => ?_⟩
  obtain ⟨g, hg⟩ := dget_some hn
  obtain ⟨y, hy⟩ := ha.clean (dget_mem hg)
  refine ⟨y, by rw [Dk.look, hg]; exact congrArg some hy, ?_⟩
  rw [hb.look, ha.again]
  obtain ⟨parts, hp⟩ := crash_find a.fl [] (-1) nm g 0 a.N hg
  rw [hp]
  have e : (a.fl g).crash parts = y := by
    dsimp only at hy
    rw [hy]
    exact Fl.crash_clean rfl rfl parts
  rw [e]
  rfl
theorem Dk.look_read (d : Dk) (k : Nat) (n : Nm) : (d.read k).look n = d.look n := rfl
/-- A row that a call has laid. -/
theorem Held.laid {own : Own} {w0 w w' : World} {f K : Nat} {d : Dk} (h : Held own w0 w f d K) {t : TypeId} {A : Option Addr} {n c : Nat} {xs : List Value} (hr : w'.ownsRow w.heap.size t 1 (.slice A n c) n xs) : Free own w' A n xs := by
  refine h.younger (Row.own hr) fun hn ad had => ?_
  rcases hr.2 with ⟨e, _⟩ | ⟨g, cap, cur, e, hb, _⟩
  · injection e with e1 e2 e3; omega
  · injection e with e1 e2 e3
    rw [e1] at had
    injection had with had
    rw [← had]
    exact hb
/-! Two disks beside each other, and rows that are no disk's. -/
structure Two (own : Own) (w1 w : World) (fa fb : Nat) (a b : Dk) (K : Nat) (Al Am : Option Addr) (L : Nat) (vs : List Value) : Prop where
  a : ∃ a', Held own w1 w fa a' K ∧ ∀ n, a'.look n = a.look n
  b : ∃ b', Held own w1 w fb b' K ∧ ∀ n, b'.look n = b.look n
  ne : fb ≠ fa
  l : Free own w Al L vs
  m : Free own w Am L vs
theorem Two.all {own : Own} {w1 w w' : World} {fa fb : Nat} {a b : Dk} {K : Nat} {Al Am : Option Addr} {L : Nat} {vs : List Value} (h : Two own w1 w fa fb a b K Al Am L vs) (hb : Below w.heap.size w w') : Two own w1 w' fa fb a b K Al Am L vs := by
  obtain ⟨a', ha, la⟩ := h.a
  obtain ⟨b', hb', lb⟩ := h.b
  exact ⟨⟨a', ha.all hb, la⟩, ⟨b', hb'.all hb, lb⟩, h.ne, h.l.keep (fun _ _ => rfl) hb, h.m.keep (fun _ _ => rfl) hb⟩
theorem Two.size_a {own : Own} {w1 w : World} {fa fb : Nat} {a b : Dk} {K : Nat} {Al Am : Option Addr} {L : Nat} {vs : List Value} (h : Two own w1 w fa fb a b K Al Am L vs) (nm y : List UInt8) (hs : nm.length ≤ maxLen) (hy : a.look nm = some ⟨y, y, []⟩) (q : Nat) :
    Calls Tryz.prog 17 #[.pointer (some ⟨fa, 0, none⟩), .string ⟨nm.toArray⟩] (w.drewN q) fun e w' => e = .returned (.int .i64 (y.length : Int)) ∧ w' = w.drewN q := by
  obtain ⟨a', ha, la⟩ := h.a
  exact size_look ⟨nm.toArray⟩ (ha.all (below_drewN (Below.refl _ w) q)) (by show nm.toArray.size ≤ maxLen; rw [List.size_toArray]; exact hs) (x := ⟨y, y, []⟩) (by show a'.look nm = _; rw [la]; exact hy)
theorem Two.size_b {own : Own} {w1 w : World} {fa fb : Nat} {a b : Dk} {K : Nat} {Al Am : Option Addr} {L : Nat} {vs : List Value} (h : Two own w1 w fa fb a b K Al Am L vs) (nm y : List UInt8) (hs : nm.length ≤ maxLen) (hy : b.look nm = some ⟨y, y, []⟩) (q : Nat) :
    Calls Tryz.prog 17 #[.pointer (some ⟨fb, 0, none⟩), .string ⟨nm.toArray⟩] (w.drewN q) fun e w' => e = .returned (.int .i64 (y.length : Int)) ∧ w' = w.drewN q := by
  obtain ⟨b', hb, lb⟩ := h.b
  exact size_look ⟨nm.toArray⟩ (hb.all (below_drewN (Below.refl _ w) q)) (by show nm.toArray.size ≤ maxLen; rw [List.size_toArray]; exact hs) (x := ⟨y, y, []⟩) (by show b'.look nm = _; rw [lb]; exact hy)
theorem Two.read_a {own : Own} {w1 w : World} {fa fb : Nat} {a b : Dk} {K : Nat} {Al Am : Option Addr} {L : Nat} {vs : List Value} (h : Two own w1 w fa fb a b K Al Am L vs) (nm y : List UInt8) (hs : nm.length ≤ maxLen) (hy : a.look nm = some ⟨y, y, []⟩) (hK : K + 1 ≤ 1073741824) :
    Calls Tryz.prog 53 #[.pointer (some ⟨fa, 0, none⟩), .string ⟨nm.toArray⟩, .int .i64 0, .int .i64 (y.length : Int)] w fun e w' => ∃ A c, e = .returned (.tuple #[.slice A y.length c, .int .i64 0]) ∧ Two own w1 w' fa fb a b (K + 1) Al Am L vs ∧ Free own w' A y.length (bvs y) := by
  obtain ⟨a', ha, la⟩ := h.a
  obtain ⟨b', hb, lb⟩ := h.b
  refine (read_look (x := ⟨y, y, []⟩) ⟨nm.toArray⟩ 0 y.length ha (by show nm.toArray.size ≤ maxLen; rw [List.size_toArray]; exact hs) (by show a'.look nm = _; rw [la]; exact hy) (by show 0 + y.length ≤ y.length; omega) hK).mono ?_
  rintro e w' ⟨v, rfl, hr, h1, st⟩
  obtain ⟨A, c, rfl, _, _⟩ := own_form hr
  have e0 : (y.drop 0).take y.length = y := by rw [List.drop_zero, List.take_length]
  rw [e0] at hr
  exact ⟨A, c, rfl, ⟨⟨_, h1, la⟩, ⟨b', (hb.other st h.ne h1.top).mono (by omega) hK, lb⟩, h.ne, h.l.step st, h.m.step st⟩, ha.answer hr⟩
theorem Two.read_b {own : Own} {w1 w : World} {fa fb : Nat} {a b : Dk} {K : Nat} {Al Am : Option Addr} {L : Nat} {vs : List Value} (h : Two own w1 w fa fb a b K Al Am L vs) (nm y : List UInt8) (hs : nm.length ≤ maxLen) (hy : b.look nm = some ⟨y, y, []⟩) (hK : K + 1 ≤ 1073741824) {A1 : Option Addr} (hx : Free own w A1 y.length (bvs y)) :
    Calls Tryz.prog 53 #[.pointer (some ⟨fb, 0, none⟩), .string ⟨nm.toArray⟩, .int .i64 0, .int .i64 (y.length : Int)] w fun e w' => ∃ A c, e = .returned (.tuple #[.slice A y.length c, .int .i64 0]) ∧ Two own w1 w' fa fb a b (K + 1) Al Am L vs ∧ Free own w' A y.length (bvs y) ∧ Free own w' A1 y.length (bvs y) := by
  obtain ⟨a', ha, la⟩ := h.a
  obtain ⟨b', hb, lb⟩ := h.b
  refine (read_look (x := ⟨y, y, []⟩) ⟨nm.toArray⟩ 0 y.length hb (by show nm.toArray.size ≤ maxLen; rw [List.size_toArray]; exact hs) (by show b'.look nm = _; rw [lb]; exact hy) (by show 0 + y.length ≤ y.length; omega) hK).mono ?_
  rintro e w' ⟨v, rfl, hr, h1, st⟩
  obtain ⟨A, c, rfl, _, _⟩ := own_form hr
  have e0 : (y.drop 0).take y.length = y := by rw [List.drop_zero, List.take_length]
  rw [e0] at hr
  exact ⟨A, c, rfl, ⟨⟨a', (ha.other st h.ne.symm h1.top).mono (by omega) hK, la⟩, ⟨_, h1, lb⟩, h.ne, h.l.step st, h.m.step st⟩, hb.answer hr, hx.step st⟩
end Go.Proofs.YtbljdcdcnnidkaaGreatDoor.Disk
/-
  Several disks in one memory, read and never changed: what each holds, name by name; rows that are no disk's stay as they are.
-/
namespace Go.Proofs.YtbljdcdcnnidkaaGreatDoor.Mix
open Go.RowKit Go.Maps Go.Proofs.YtbljdcdcnnidkaaGreatDoor.Disk
set_option linter.unusedVariables false
set_option linter.unusedSimpArgs false

/-- Disks were read, memory was made: nothing else was changed. -/
structure Rd (own : Own) (w w' : World) : Prop where
  os : w'.os = w.os
  tape : w'.tape = w.tape
  output : w'.output = w.output
  size : w.heap.size ≤ w'.heap.size
  block : ∀ b, b < w.heap.size → own b = none → w'.heap[b]? = w.heap[b]?
theorem Rd.refl (own : Own) (w : World) : Rd own w w := ⟨rfl, rfl, rfl, Nat.le_refl _, fun _ _ _ => rfl⟩
theorem Rd.trans {own : Own} {w w' w'' : World} (h : Rd own w w') (k : Rd own w' w'') : Rd own w w'' :=
  ⟨k.os.trans h.os, k.tape.trans h.tape, k.output.trans h.output, Nat.le_trans h.size k.size, fun b hb ho => (k.block b (Nat.lt_of_lt_of_le hb h.size) ho).trans (h.block b hb ho)⟩
theorem Rd.of_below {own : Own} {w w' : World} (h : Below w.heap.size w w') : Rd own w w' := ⟨h.os, h.tape, h.output, h.size, fun b hb _ => h.block b hb⟩
theorem Rd.of_step {own : Own} {f : Nat} {w w' : World} (h : Step own own f w w') : Rd own w w' := ⟨h.os, h.tape, h.output, h.size, fun b hb ho => h.block b hb (fun g e => by rw [ho] at e; cases e)⟩
theorem free_rd {own : Own} {w w' : World} {A : Option Addr} {n : Nat} {vs : List Value} (h : Free own w A n vs) (hr : Rd own w w') : Free own w' A n vs := by
  refine ⟨h.1, fun hn => ?_⟩
  obtain ⟨b, o, rfl, ho, hb, hc⟩ := h.2 hn
  exact ⟨b, o, rfl, ho, Nat.lt_of_lt_of_le hb hr.size, fun i v hv => (World.cell?_of_block (a := ⟨b, o + i, none⟩) (hr.block b hb ho)).trans (hc i v hv)⟩
/-- What stands in a file; nothing where there is none. -/
def text (d : Dk) (n : Nm) : List UInt8 := ((d.look n).map Fl.now).getD []
/-- A disk among others: where it lies, the world before it, its files' names, what stands in each. -/
structure Ent where
  f : Nat
  w0 : World
  ns : List Nm
  T : Nm → List UInt8
structure Dks (own : Own) (w : World) (K : Nat) (L : List Ent) : Prop where
  one : ∀ p ∈ L, ∀ q ∈ L, p.f = q.f → p = q
  disk : ∀ p ∈ L, ∃ d, Held own p.w0 w p.f d K ∧ d.N.map (·.1) = p.ns ∧ ∀ n, text d n = p.T n
theorem Dks.all {own : Own} {w w' : World} {K : Nat} {L : List Ent} (h : Dks own w K L) (hb : Below w.heap.size w w') : Dks own w' K L :=
  ⟨h.one, fun p hp => by obtain ⟨d, h1, h2, h3⟩ := h.disk p hp; exact ⟨d, h1.all hb, h2, h3⟩⟩
theorem Dks.mono {own : Own} {w : World} {K K' : Nat} {L : List Ent} (h : Dks own w K L) (hK : K ≤ K') (hb : K' ≤ 1073741824) : Dks own w K' L :=
  ⟨h.one, fun p hp => by obtain ⟨d, h1, h2, h3⟩ := h.disk p hp; exact ⟨d, h1.mono hK hb, h2, h3⟩⟩
theorem Dks.top {own : Own} {w : World} {K : Nat} {L : List Ent} (h : Dks own w K L) {p : Ent} (hp : p ∈ L) : ∀ b q, own b = some q → b < w.heap.size := by
  obtain ⟨d, h1, _⟩ := h.disk p hp
  exact h1.top
theorem Dks.read {own : Own} {w w' : World} {K k : Nat} {L : List Ent} {p : Ent} {d : Dk} (h : Dks own w K L) (hp : p ∈ L) (h2 : d.N.map (·.1) = p.ns) (h3 : ∀ n, text d n = p.T n) (h1 : Held own p.w0 w' p.f (d.read k) (K + 1)) (hs : Step own own p.f w w') (hK : K + 1 ≤ 1073741824) : Dks own w' (K + 1) L := by
  refine ⟨h.one, fun q hq => ?_⟩
  by_cases e : q.f = p.f
  · obtain rfl := h.one q hq p hp e
    exact ⟨d.read k, h1, h2, h3⟩
  · obtain ⟨d2, k1, k2, k3⟩ := h.disk q hq
    exact ⟨d2, (k1.other hs e (fun b x hx => Nat.lt_of_lt_of_le (k1.top b x hx) hs.size)).mono (Nat.le_succ _) hK, k2, k3⟩
/-- A row of the call's own is no disk's. -/
theorem Dks.row {own : Own} {w w' : World} {K : Nat} {L : List Ent} (h : Dks own w K L) {p : Ent} (hp : p ∈ L) {t : TypeId} {A : Option Addr} {n c : Nat} {xs : List Value} (hr : w'.ownsRow w.heap.size t 1 (.slice A n c) n xs) : Free own w' A n xs := by
  obtain ⟨d, h1, _⟩ := h.disk p hp
  exact h1.laid hr
set_option maxRecDepth 100000 in
set_option maxHeartbeats 4000000 in
theorem whole_any {own : Own} {w : World} {K : Nat} {L : List Ent} {p : Ent} (s : ByteArray) (h : Dks own w K L) (hp : p ∈ L) (hs : s.size ≤ maxLen) (hK : K + 1 ≤ 1073741824) :
    Calls Tryz.prog 31 #[.pointer (some ⟨p.f, 0, none⟩), .string s] w fun e w' => ∃ A c, e = .returned (.slice A (p.T s.data.toList).length c) ∧ (p.T s.data.toList).length ≤ c ∧ c ≤ maxLen ∧ (p.T s.data.toList).length ≤ 4194304 ∧ Free own w' A (p.T s.data.toList).length (bvs (p.T s.data.toList)) ∧ Dks own w' (K + 1) L ∧ Rd own w w' := by
  obtain ⟨d, h1, h2, h3⟩ := h.disk p hp
  have ht := h3 s.data.toList
  have hnil : Free own w none 0 (bvs []) := ⟨rfl, fun h => absurd h (by omega)⟩
  unfold text at ht
  cases hx : d.look s.data.toList with
  | none =>
    rw [hx] at ht
    have e0 : p.T s.data.toList = [] := ht.symm
    rw [e0]
    have C := Lib.hid (size_lost s h1 hs hx)
    have HD := Lib.hid (h.mono (Nat.le_succ K) hK)
    clear h1 h2 h3 ht hx h
    go_enter Tryz.func31, Tryz.ntmps31
    go_wp2_with (go_at_call 17; refine C.out.mono ?_; rintro e w' ⟨rfl, rfl⟩)
    go_ret
    exact ⟨none, 0, rfl, Nat.le_refl _, by decide, by decide, hnil, HD.out, Rd.refl _ _⟩
  | some x =>
    rw [hx] at ht
    have e0 : p.T s.data.toList = x.now := ht.symm
    rw [e0]
    have hmax := (h1.ok hx).max
    have C := Lib.hid (size_look s h1 hs hx)
    obtain ⟨N, hN⟩ : ∃ N, N = x.now.length := ⟨_, rfl⟩
    have C2 := Lib.hid (read_look s 0 N h1 hs hx (by omega) hK)
    rw [List.drop_zero, hN, List.take_length] at C2
    rw [← hN] at C C2 hmax ⊢
    have HD := Lib.hid h
    have H2 := Lib.hid h2
    have H3 := Lib.hid h3
    have HP := Lib.hid hp
    have HT := Lib.hid (h.mono (Nat.le_succ K) hK)
    have HNL := Lib.hid hN
    clear h1 h2 h3 ht hx h hN
    by_cases h0 : N < 1
    · obtain rfl : N = 0 := by omega
      have e1 : x.now = [] := List.eq_nil_of_length_eq_zero HNL.out.symm
      go_enter Tryz.func31, Tryz.ntmps31
      go_wp2_with (go_at_call 17; refine C.out.mono ?_; rintro e w' ⟨rfl, rfl⟩)
      go_ret
      rw [e1]
      exact ⟨none, 0, rfl, Nat.le_refl _, by decide, by decide, hnil, HT.out, Rd.refl _ _⟩
    · have h0' : ¬ (N : Int) < 1 := by omega
      go_enter Tryz.func31, Tryz.ntmps31
      go_wp2_with (first
        | (go_at_call 17; refine C.out.mono ?_; rintro e w' ⟨rfl, rfl⟩)
        | (go_at_call 53; refine C2.out.mono ?_; rintro e w2 ⟨v, rfl, ho, hd, hst⟩; have HO := Lib.hid ho; have HH := Lib.hid hd; have HS := Lib.hid hst; clear ho hd hst))
      go_ret
      obtain ⟨A, c, rfl, hnc, hc⟩ := own_form HO.out
      exact ⟨A, c, rfl, hnc, hc, hmax, HD.out.row HP.out HO.out, HD.out.read HP.out H2.out H3.out HH.out HS.out hK, Rd.of_step HS.out⟩
end Go.Proofs.YtbljdcdcnnidkaaGreatDoor.Mix
