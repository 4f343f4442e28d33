/-
  Texts one behind the other: DiskHeld, DiskBytes, SlotCrash.
-/
import Derived.Test.YtcmlchicpmnhdaaGreatDoorG17
import Derived.Test.YtcmlchicpmnhdaaGreatDoorG30
/-
  Proved: what the methods of a disk of package disk do, said for a law's walk: a disk is held, and nothing that lay when it was made turns.
-/
namespace Go.Proofs.YtcmlchicpmnhdaaGreatDoor.Disk
open Go.RowKit Go.Maps
set_option linter.unusedVariables false
set_option linter.unusedSimpArgs false

/-- A disk of which nothing lay in world w0. -/
structure Held (own : Own) (w0 w : World) (f : Nat) (d : Dk) (K : Nat) : Prop where
  disk : DiskAt own w f d K
  below : Below w0.heap.size w0 w
  free : ∀ b, b < w0.heap.size → own b = none
theorem Held.top {own : Own} {w0 w : World} {f K : Nat} {d : Dk} (h : Held own w0 w f d K) : ∀ b p, own b = some p → b < w.heap.size := h.disk.top
theorem Held.fresh {own : Own} {w0 w : World} {f K : Nat} {d : Dk} (h : Held own w0 w f d K) {b : Nat} (hb : w.heap.size ≤ b) : own b = none := by
  cases hp : own b with
  | none => rfl
  | some p => have := h.top b p hp; omega
theorem Held.next {own own' : Own} {w0 w w' : World} {f K K' : Nat} {d d' : Dk} (h : Held own w0 w f d K) (hs : Step own own' f w w') (hd : DiskAt own' w' f d' K') : Held own' w0 w' f d' K' :=
  ⟨hd, h.below.trans (hs.below h.below.size fun b hb => h.free b hb), fun b hb => (hs.same b (Nat.lt_of_lt_of_le hb h.below.size)).trans (h.free b hb)⟩
theorem Held.beside {own own' : Own} {w0 w w' : World} {f K : Nat} {d : Dk} (h : Held own w0 w f d K) (hb : Below w.heap.size w w') (hs : ∀ b, b < w.heap.size → own' b = own b) (ht : ∀ b p, own' b = some p → b < w'.heap.size) : Held own' w0 w' f d K :=
  ⟨h.disk.keep hb.size hs ht fun b hb' _ _ => hb.block b hb', h.below.trans (hb.mono h.below.size), fun b hb' => (hs b (Nat.lt_of_lt_of_le hb' h.below.size)).trans (h.free b hb')⟩
theorem Held.all {own : Own} {w0 w w' : World} {f K : Nat} {d : Dk} (h : Held own w0 w f d K) (hb : Below w.heap.size w w') : Held own w0 w' f d K :=
  h.beside hb (fun _ _ => rfl) fun b p hp => Nat.lt_of_lt_of_le (h.top b p hp) hb.size
theorem Held.other {own own' : Own} {w0 w w' : World} {f f' K : Nat} {d : Dk} (h : Held own w0 w f' d K) (hs : Step own own' f w w') (hne : f' ≠ f) (ht : ∀ b p, own' b = some p → b < w'.heap.size) : Held own' w0 w' f' d K :=
  ⟨hs.other hne ht h.disk, h.below.trans (hs.below h.below.size fun b hb => h.free b hb), fun b hb => (hs.same b (Nat.lt_of_lt_of_le hb h.below.size)).trans (h.free b hb)⟩
theorem Dk.Ok.mono {d : Dk} {K K' : Nat} (h : d.Ok K) (hK : K ≤ K') (hb : K' ≤ 1073741824) : d.Ok K' := by
  obtain ⟨h1, h2, h3, h4, h5, h6, h7, h8⟩ := h
  exact ⟨hb, h2, by omega, by omega, h5, by omega, by omega, h8⟩
theorem DiskAt.mono {own : Own} {w : World} {f K K' : Nat} {d : Dk} (h : DiskAt own w f d K) (hK : K ≤ K') (hb : K' ≤ 1073741824) : DiskAt own w f d K' := by
  obtain ⟨nb, sb, wv, h1, h2, h3, h4, h5, h6, h7, h8, h9, h10, h11, h12⟩ := h
  exact ⟨nb, sb, wv, h1.mono hK hb, h2, h3, h4, h5, h6, h7, h8, h9, h10, h11, h12⟩
theorem Held.mono {own : Own} {w0 w : World} {f K K' : Nat} {d : Dk} (h : Held own w0 w f d K) (hK : K ≤ K') (hb : K' ≤ 1073741824) : Held own w0 w f d K' := ⟨h.disk.mono hK hb, h.below, h.free⟩
/-- What a row that lay in w0 reads as. -/
theorem Held.row {own : Own} {w0 w : World} {f K : Nat} {d : Dk} (h : Held own w0 w f d K) {A : Option Addr} {n : Nat} {vs : List Value} (hR : Row w0 w0.heap.size A n vs) : Row w w0.heap.size A n vs := hR.below h.below
theorem new_held (n : Int) (w : World) : Calls Tryz.prog 6 #[.int .i64 n] w fun e w' => ∃ own f, e = .returned (.pointer (some ⟨f, 0, none⟩)) ∧ Held own w w' f (newDk (room n) []) 0 := by
  refine (new_left (own := fun _ => none) n (fun b p hp => by cases hp)).mono ?_
  rintro e w' ⟨own1, f', nb', sb', rfl, h⟩
  have hr : 0 ≤ room n ∧ room n ≤ 4194304 := by unfold room; omega
  exact ⟨own1, f', rfl, h.done (World.grownBy.refl _ _) h.mapN hr (Nat.le_refl _) (by omega), h.below, h.same⟩
theorem Dk.begin_ok {d : Dk} (h : d.failing = false) : d.begin = { d with calls := d.calls + 1 } := by
  unfold Dk.begin
  rw [if_pos h]
theorem Dk.err_ok {d : Dk} (h : d.failing = false) : d.err = 0 := by
  unfold Dk.err
  rw [h]
  exact if_neg (by simp)
def Dk.made (d : Dk) (s : ByteArray) (g : Nat) : Dk := { d with N := dput s.data.toList g (ddel [] d.N), wait := d.wait ++ [⟨noName, s, some g⟩], calls := d.calls + 1, fl := upd d.fl g emptyFl }
theorem create_held {own : Own} {w0 w : World} {f K : Nat} {d : Dk} (s : ByteArray) (h : Held own w0 w f d K) (hs : s.size ≤ maxLen) (hK : K + 1 ≤ 1073741824) (hf : d.failing = false) (hg : goodName s.data.toList = true) (hl : d.N.length < 400) :
    Calls Tryz.prog 75 #[.pointer (some ⟨f, 0, none⟩), .string s] w fun e w' => ∃ own' g, e = .returned (.int .i64 0) ∧ Held own' w0 w' f (d.made s g) (K + 1) ∧ ¬ d.refs g ∧ Step own own' f w w' := by
  refine (create_any s h.disk hs hK).mono ?_
  rintro e w' ⟨own', g, hge, he, hd, hst⟩
  have e1 : d.create s g = (0, d.made s g) := by
    rw [Dk.create, if_neg (by rw [d.err_ok hf]; simp), if_neg (by rw [hg]; simp), if_neg (by omega), d.begin_ok hf]
    rfl
  rw [e1] at he hd
  refine ⟨own', g, he, h.next hst hd, fun hr => ?_, hst⟩
  obtain ⟨nb, sb, wv, hdi⟩ := h.disk
  have := hdi.lt hr
  omega
def Dk.put (d : Dk) (g : Nat) (x : Fl) : Dk := { d with calls := d.calls + 1, fl := upd d.fl g x }
theorem write_held {own : Own} {w0 w : World} {f K g : Nat} {d : Dk} (s : ByteArray) (a : Nat) (h : Held own w0 w f d K) (hs : s.size ≤ maxLen) (hK : K + 1 ≤ 1073741824) (hf : d.failing = false) (hx : dget s.data.toList d.N = some g) (ha : a ≤ (d.fl g).now.length)
    {B : Nat} {A : Option Addr} {m c : Nat} {bs : List UInt8} (hR : Row w B A m (bvs bs)) (hB : B ≤ w.heap.size) (hA : 0 < m → ∀ ad, A = some ad → own ad.block = none) (hc : m ≤ c) (hcm : c ≤ maxLen) (hm : m ≤ 1099511627776)
    (hroom : (total (fun g => (d.fl g).now.length) d.N : Int) + (a + bs.length - ((d.fl g).now.length : Int)) ≤ d.room) :
    Calls Tryz.prog 56 #[.pointer (some ⟨f, 0, none⟩), .string s, .int .i64 (a : Int), .slice A m c] w fun e w' => ∃ own' L, e = .returned (.int .i64 0) ∧ (∀ t, shas t L = (shas t (d.fl g).soiled || touches a bs.length t)) ∧
      Held own' w0 w' f (d.put g ⟨putAt (d.fl g).now a bs, (d.fl g).was, L⟩) (K + 1) ∧ Step own own' f w w' := by
  have hmx : (d.fl g).now.length ≤ 4194304 := by
    obtain ⟨nb, sb, wv, hdi⟩ := h.disk
    obtain ⟨_, v0, ob0, hf⟩ := hdi.look hx
    exact hf.ok.max
  refine (write_any s a h.disk hs hK (by omega) (by omega) hR hB (fun hm0 ad had g => by rw [hA hm0 ad had]; simp) hc hcm hm).mono ?_
  rintro e w' ⟨own', n, d', hW, he, hd, hst⟩
  rw [Dk.Writes, if_neg (by rw [d.err_ok hf]; simp), hx] at hW
  dsimp only at hW
  rw [if_neg (by omega), if_neg (by omega)] at hW
  obtain ⟨rfl, L, hL, rfl⟩ := hW
  rw [Int.toNat_natCast] at hL hd
  rw [d.begin_ok hf] at hd
  exact ⟨own', L, he, hL, h.next hst hd, hst⟩
theorem sync_held {own : Own} {w0 w : World} {f K g : Nat} {d : Dk} (s : ByteArray) (h : Held own w0 w f d K) (hs : s.size ≤ maxLen) (hK : K + 1 ≤ 1073741824) (hf : d.failing = false) (hx : dget s.data.toList d.N = some g) :
    Calls Tryz.prog 57 #[.pointer (some ⟨f, 0, none⟩), .string s] w fun e w' => ∃ own', e = .returned (.int .i64 0) ∧ Held own' w0 w' f (d.put g ⟨(d.fl g).now, (d.fl g).now, []⟩) (K + 1) ∧ Step own own' f w w' := by
  refine (sync_any s h.disk hs hK).mono ?_
  rintro e w' ⟨own', g', _, he, hd, hst⟩
  have e1 : d.sync s = (0, d.put g ⟨(d.fl g).now, (d.fl g).now, []⟩) := by
    rw [Dk.sync, if_neg (by rw [d.err_ok hf]; simp), hx, d.begin_ok hf]
    rfl
  dsimp only at he hd
  rw [e1] at he hd
  exact ⟨own', he, h.next hst hd, hst⟩
def Dk.dirred (d : Dk) : Dk := { d with calls := d.calls + 1, S := foldDir d.S d.wait d.wait.length, wait := [] }
theorem syncDir_held {own : Own} {w0 w : World} {f K : Nat} {d : Dk} (h : Held own w0 w f d K) (hK : K + 1 ≤ 1073741824) (hf : d.failing = false) :
    Calls Tryz.prog 49 #[.pointer (some ⟨f, 0, none⟩)] w fun e w' => ∃ own', e = .returned (.int .i64 0) ∧ Held own' w0 w' f d.dirred (K + 1) ∧ Step own own' f w w' := by
  refine (syncDir_any h.disk hK).mono ?_
  rintro e w' ⟨own', g', _, he, hd, hst⟩
  have e1 : d.syncDir = (0, d.dirred) := by
    rw [Dk.syncDir, if_neg (by rw [d.err_ok hf]; simp), d.begin_ok hf]
    rfl
  dsimp only at he hd
  rw [e1] at he hd
  exact ⟨own', he, h.next hst hd, hst⟩
def Dk.renamed (d : Dk) (s u : ByteArray) (g : Nat) : Dk := { d with calls := d.calls + 1, N := dput u.data.toList g (ddel s.data.toList d.N), wait := d.wait ++ [⟨s, u, some g⟩] }
theorem rename_held {own : Own} {w0 w : World} {f K g : Nat} {d : Dk} (s u : ByteArray) (h : Held own w0 w f d K) (hs : s.size ≤ maxLen) (hu : u.size ≤ maxLen) (hK : K + 1 ≤ 1073741824) (hf : d.failing = false) (hx : dget s.data.toList d.N = some g) (hg : goodName u.data.toList = true) :
    Calls Tryz.prog 48 #[.pointer (some ⟨f, 0, none⟩), .string s, .string u] w fun e w' => ∃ own', e = .returned (.int .i64 0) ∧ Held own' w0 w' f (d.renamed s u g) (K + 1) ∧ Step own own' f w w' := by
  refine (rename_any s u h.disk hs hu hK).mono ?_
  rintro e w' ⟨own', g', _, he, hd, hst⟩
  have e1 : d.rename s u = (0, d.renamed s u g) := by
    rw [Dk.rename, if_neg (by rw [d.err_ok hf]; simp), hx, d.begin_ok hf]
    exact if_neg (by rw [hg]; simp)
  dsimp only at he hd
  rw [e1] at he hd
  exact ⟨own', he, h.next hst hd, hst⟩
/-! What a name reads as. -/
def Dk.look (d : Dk) (n : Nm) : Option Fl := (dget n d.N).map d.fl
theorem Dk.look_files (d : Dk) (n : Nm) : d.look n = (d.files.find? (fun p => p.1 == n)).map (·.2) := by
  unfold Dk.look dget Dk.files
  rw [List.find?_map, Option.map_map, Option.map_map]
  rfl
theorem Dk.Crashed.look {d d' : Dk} {c : Int} {keep : List Bool} {torn : Int} (h : d.Crashed d' c keep torn) (n : Nm) : d'.look n = ((crashFiles d.fl keep torn 0 (d.crashDir c)).find? (fun p => p.1 == n)).map fun p => ⟨p.2, p.2, []⟩ := by
  rw [d'.look_files, h.files, List.find?_map, Option.map_map]
  rfl
theorem look_inv {d : Dk} {n : Nm} {x : Fl} (h : d.look n = some x) : ∃ g, dget n d.N = some g ∧ d.fl g = x := by
  obtain ⟨g, h1, h2⟩ := Option.map_eq_some_iff.1 h
  exact ⟨g, h1, h2⟩
theorem size_look {own : Own} {w0 w : World} {f K : Nat} {d : Dk} {x : Fl} (s : ByteArray) (h : Held own w0 w f d K) (hs : s.size ≤ maxLen) (hx : d.look s.data.toList = some x) :
    Calls Tryz.prog 45 #[.pointer (some ⟨f, 0, none⟩), .string s] w fun e w' => e = .returned (.int .i64 (x.now.length : Int)) ∧ w' = w := by
  obtain ⟨g, h1, rfl⟩ := look_inv hx
  exact size_some s h.disk hs h1
theorem size_lost {own : Own} {w0 w : World} {f K : Nat} {d : Dk} (s : ByteArray) (h : Held own w0 w f d K) (hs : s.size ≤ maxLen) (hx : d.look s.data.toList = none) :
    Calls Tryz.prog 45 #[.pointer (some ⟨f, 0, none⟩), .string s] w fun e w' => e = .returned (.int .i64 (-1)) ∧ w' = w :=
  size_none s h.disk hs (Option.map_eq_none_iff.1 hx)
theorem read_look {own : Own} {w0 w : World} {f K : Nat} {d : Dk} {x : Fl} (s : ByteArray) (a n : Nat) (h : Held own w0 w f d K) (hs : s.size ≤ maxLen) (hx : d.look s.data.toList = some x) (hn : a + n ≤ x.now.length) (hK : K + 1 ≤ 1073741824) :
    Calls Tryz.prog 68 #[.pointer (some ⟨f, 0, none⟩), .string s, .int .i64 (a : Int), .int .i64 (n : Int)] w fun e w' => ∃ v, e = .returned (.tuple #[v, .int .i64 0]) ∧
      w'.ownsRow w.heap.size 5 1 v n (bvs ((x.now.drop a).take n)) ∧ Held own w0 w' f (d.read n) (K + 1) ∧ Step own own f w w' := by
  obtain ⟨g, h1, rfl⟩ := look_inv hx
  refine (read_ok s a n h.disk hs h1 hn hK).mono ?_
  rintro e w' ⟨v, he, hr, hd, hst⟩
  exact ⟨v, he, hr, h.next hst hd, hst⟩
theorem crash_held {own : Own} {w0 w : World} {f K : Nat} {d : Dk} (n torn : Int) (h : Held own w0 w f d K) {B : Nat} {A : Option Addr} {m c : Nat} {keep : List Bool} (hR : Row w B A m (lvs keep)) (hB : B ≤ w.heap.size) (hm : m ≤ 1099511627776) :
    Calls Tryz.prog 13 #[.pointer (some ⟨f, 0, none⟩), .int .i64 n, .slice A m c, .int .i64 torn] w fun e w' => ∃ own' f' d', e = .returned (.pointer (some ⟨f', 0, none⟩)) ∧ Held own' w0 w' f d K ∧ Held own' w0 w' f' d' K ∧ d.Crashed d' n keep torn ∧ f' ≠ f := by
  refine (crash_any (c := c) n torn h.disk hR hB hm).mono ?_
  rintro e w' ⟨own', f', d', he, hge, hd, hc, hb, hs, _⟩
  have hk := h.beside hb hs hd.top
  have hlt := h.disk.lt
  exact ⟨own', f', d', he, hk, ⟨hd, hk.below, hk.free⟩, hc, by omega⟩
theorem dirty_held {own : Own} {w0 w : World} {f K : Nat} {d : Dk} (h : Held own w0 w f d K) :
    Calls Tryz.prog 92 #[.pointer (some ⟨f, 0, none⟩)] w fun e w' => e = .returned (.int .i64 ((total (fun g => (d.fl g).soiled.length) d.N : Nat) : Int)) ∧ Held own w0 w' f d K ∧ Below w.heap.size w w' := by
  obtain ⟨nb, sb, wv, hd⟩ := h.disk
  refine (dirty_any hd).mono ?_
  rintro e w' ⟨he, hb⟩
  exact ⟨he, h.all hb, hb⟩
/-! Sectors that one write has made dirty. -/
theorem rising_unique : ∀ {l m : List Nat}, l.Pairwise (· < ·) → m.Pairwise (· < ·) → (∀ t, t ∈ l ↔ t ∈ m) → l = m
  | [], [], _, _, _ => rfl
  | [], b :: m, _, _, h => by have := (h b).2 (by simp); cases this
  | a :: l, [], _, _, h => by have := (h a).1 (by simp); cases this
  | a :: l, b :: m, hl, hm, h => by
    obtain ⟨h1, h2⟩ := List.pairwise_cons.1 hl
    obtain ⟨h3, h4⟩ := List.pairwise_cons.1 hm
    have hab : a = b := by
      have ha := (h a).1 (by simp)
      have hb := (h b).2 (by simp)
      rcases List.mem_cons.1 ha with e | ha
      · exact e
      · rcases List.mem_cons.1 hb with e | hb
        · exact e.symm
        · have := h3 a ha; have := h1 b hb; omega
    subst hab
    rw [rising_unique h2 h4 fun t => ?_]
    constructor
    · intro ht
      rcases List.mem_cons.1 ((h t).1 (by simp [ht])) with e | ht'
      · have := h1 t ht; omega
      · exact ht'
    · intro ht
      rcases List.mem_cons.1 ((h t).2 (by simp [ht])) with e | ht'
      · have := h3 t ht; omega
      · exact ht'
theorem secs_range {L : Secs} (h : L.Pairwise fun p q => p.1 < q.1) {a k : Nat} (hh : ∀ t, shas t L = (decide (a ≤ t) && decide (t < a + k))) : L.map (·.1) = List.range' a k := by
  refine rising_unique (by rw [List.pairwise_map]; exact h) List.pairwise_lt_range' fun t => ?_
  rw [← shas_mem, hh t, List.mem_range'_1, Bool.and_eq_true, decide_eq_true_eq, decide_eq_true_eq]
theorem touched {L : Secs} (h : L.Pairwise fun p q => p.1 < q.1) {a n : Nat} (hh : ∀ t, shas t L = (shas t [] || touches a n t)) : L.map (·.1) = List.range' (a / 64) (sectors a n) :=
  secs_range h fun t => by rw [hh t]; rfl
/-- The file behind a name is whole. -/
theorem Held.ok {own : Own} {w0 w : World} {f K : Nat} {d : Dk} {n : Nm} {x : Fl} (h : Held own w0 w f d K) (hx : d.look n = some x) : x.Ok := by
  obtain ⟨g, h1, rfl⟩ := look_inv hx
  obtain ⟨nb, sb, wv, hd⟩ := h.disk
  obtain ⟨_, v, ob, hf⟩ := hd.files g (.inl (List.mem_map.2 ⟨_, dget_mem h1, rfl⟩))
  exact hf.ok
end Go.Proofs.YtcmlchicpmnhdaaGreatDoor.Disk
/-
  Plain facts: the bytes that a crash leaves of a file, one by one.
-/
namespace Go.Proofs.YtcmlchicpmnhdaaGreatDoor.Disk
open Go.RowKit Go.Maps
set_option linter.unusedVariables false
set_option linter.unusedSimpArgs false

theorem fixSec_get {was b : List UInt8} {Z s p : Nat} (hb : b.length = Z) (hp : p ≤ 64) {i : Nat} (hi : i < Z) : (fixSec was Z s p b)[i]? = if 64 * s + p ≤ i ∧ i < 64 * s + 64 then some (was.getD i 0) else b[i]? := by
  unfold fixSec
  have hX : (((was.drop (64 * s)).take 64).drop p).length = min 64 (was.length - 64 * s) - p := by simp
  have h1 : (b.take (min (64 * s + p) Z)).length = min (64 * s + p) Z := by rw [List.length_take]; omega
  have h2 : ((((was.drop (64 * s)).take 64).drop p).take (min (64 * s + 64) Z - min (64 * s + p) Z)).length = min (min (64 * s + 64) Z - min (64 * s + p) Z) (min 64 (was.length - 64 * s) - p) := by rw [List.length_take, hX]
  rw [hX]
  by_cases ha : i < 64 * s + p
  · rw [if_neg (by omega), List.append_assoc, List.getElem?_append_left (by omega), List.getElem?_take, if_pos (by omega)]
  · by_cases hc : i < 64 * s + 64
    · rw [if_pos ⟨by omega, hc⟩, List.append_assoc, List.getElem?_append_right (by omega), h1, List.getElem?_append_left (by rw [List.length_append, h2, List.length_replicate]; omega)]
      by_cases hl : i < was.length
      · rw [List.getElem?_append_left (by rw [h2]; omega), List.getElem?_take, if_pos (by omega), List.getElem?_drop, List.getElem?_take, if_pos (by omega), List.getElem?_drop,
          show 64 * s + (p + (i - min (64 * s + p) Z)) = i by omega, List.getD_eq_getElem?_getD, List.getElem?_eq_getElem hl]
        rfl
      · rw [List.getElem?_append_right (by rw [h2]; omega), List.getElem?_replicate, if_pos (by rw [h2]; omega), List.getD_eq_getElem?_getD, List.getElem?_eq_none (by omega)]
        rfl
    · rw [if_neg (by omega), List.getElem?_append_right (by rw [List.length_append, h1, List.length_append, h2, List.length_replicate]; omega), List.getElem?_drop, List.length_append, h1, List.length_append, h2, List.length_replicate]
      congr 1
      omega
theorem crashK_get {now was : List UInt8} {Z : Nat} {secs parts : Nat → Nat} (hZ : Z ≤ now.length) (hp : ∀ k, parts k ≤ 64) {i : Nat} (hi : i < Z) :
    ∀ k, (crashK now was Z secs parts k)[i]? = if ∃ j, j < k ∧ secs j = i / 64 ∧ parts j ≤ i % 64 then some (was.getD i 0) else now[i]?
  | 0 => by
    rw [if_neg (by rintro ⟨j, hj, _⟩; omega)]
    show (now.take Z)[i]? = _
    rw [List.getElem?_take, if_pos hi]
  | k + 1 => by
    rw [crashK, fixSec_get (crashK_length hZ hp k) (hp k) hi, crashK_get hZ hp hi k]
    by_cases h1 : secs k = i / 64 ∧ parts k ≤ i % 64
    · rw [if_pos (by have := hp k; omega), if_pos ⟨k, by omega, h1⟩]
    · rw [if_neg (by have := hp k; omega)]
      by_cases h2 : ∃ j, j < k ∧ secs j = i / 64 ∧ parts j ≤ i % 64
      · obtain ⟨j, hj, h3⟩ := h2
        rw [if_pos ⟨j, hj, h3⟩, if_pos ⟨j, by omega, h3⟩]
      · rw [if_neg h2, if_neg]
        rintro ⟨j, hj, h3⟩
        rcases Nat.lt_or_ge j k with hh | hh
        · exact h2 ⟨j, hh, h3⟩
        · have : j = k := by omega
          subst this
          exact h1 h3
theorem csize_ge {n S : Nat} {secs parts : Nat → Nat} : ∀ k, S ≤ csize n S secs parts k
  | 0 => Nat.le_refl _
  | k + 1 => by
    have := csize_ge (n := n) (S := S) (secs := secs) (parts := parts) k
    unfold csize
    split <;> omega
theorem Fl.crash_length {x : Fl} (h : x.Ok) {parts : List Nat} (hp : ∀ i, parts.getD i 0 ≤ 64) : (x.crash parts).length = x.crashLen parts ∧ x.was.length ≤ x.crashLen parts ∧ x.crashLen parts ≤ x.now.length := by
  have h1 : x.crashLen parts ≤ x.now.length := csize_le h.le _
  exact ⟨crashK_length h1 hp _, csize_ge _, h1⟩
/-- One byte. -/
theorem Fl.crash_get {x : Fl} (h : x.Ok) {parts : List Nat} (hp : ∀ i, parts.getD i 0 ≤ 64) {i : Nat} (hi : i < x.crashLen parts) :
    (x.crash parts)[i]? = if ∃ j, j < x.soiled.length ∧ (x.soiled.map (·.1)).getD j 0 = i / 64 ∧ parts.getD j 0 ≤ i % 64 then some (x.was.getD i 0) else x.now[i]? :=
  crashK_get (csize_le h.le _) hp hi _
/-- A file that was synced stays. -/
theorem Fl.crash_clean {x : Fl} (hs : x.soiled = []) (hw : x.was = x.now) (parts : List Nat) : x.crash parts = x.now := by
  unfold Fl.crash Fl.crashLen
  rw [hs, hw]
  show x.now.take x.now.length = _
  rw [List.take_length]
/-- One file's own sectors come first. -/
theorem crash_one (fl : Nat → Fl) (keep : List Bool) (torn : Int) (n : Nm) (g : Nat) : crashFiles fl keep torn 0 [(n, g)] = [(n, (fl g).crash (partsFor 0 (fl g).soiled.length keep torn))] := rfl
end Go.Proofs.YtcmlchicpmnhdaaGreatDoor.Disk
/-
  Plain facts: what a crash leaves of a file of two slots of which one was written over.
-/
namespace Go.Proofs.YtcmlchicpmnhdaaGreatDoor.Slot
open Go.RowKit Go.Proofs.YtcmlchicpmnhdaaGreatDoor.Rec Go.Proofs.YtcmlchicpmnhdaaGreatDoor.Disk
set_option linter.unusedVariables false
set_option linter.unusedSimpArgs false

/-- A crash of a file that did not grow keeps its length. -/
theorem crash_size {x : Fl} (h : x.Ok) (hl : x.was.length = x.now.length) {parts : List Nat} (hp : ∀ i, parts.getD i 0 ≤ 64) : (x.crash parts).length = x.now.length := by
  obtain ⟨h1, h2, h3⟩ := x.crash_length h hp
  omega
/-- A byte in a sector that is not dirty stays. -/
theorem crash_clean_at {x : Fl} (h : x.Ok) (hl : x.was.length = x.now.length) {parts : List Nat} (hp : ∀ i, parts.getD i 0 ≤ 64) {i : Nat} (hi : i < x.now.length) (hc : shas (i / 64) x.soiled = false) : (x.crash parts)[i]? = x.now[i]? := by
  obtain ⟨h1, h2, h3⟩ := x.crash_length h hp
  rw [x.crash_get h hp (by omega), if_neg]
  rintro ⟨j, hj, e, _⟩
  have hm : i / 64 ∈ x.soiled.map (·.1) := by
    rw [← e, List.getD_eq_getElem?_getD, List.getElem?_eq_getElem (by rw [List.length_map]; exact hj)]
    exact List.getElem_mem _
  rw [← shas_mem, hc] at hm
  cases hm
/-- Part of a file whose sectors are not dirty stays. -/
theorem crash_clean_part {x : Fl} (h : x.Ok) (hl : x.was.length = x.now.length) {parts : List Nat} (hp : ∀ i, parts.getD i 0 ≤ 64) (lo n : Nat) (hc : ∀ t, lo ≤ t → t < lo + n → shas t x.soiled = false) : ((x.crash parts).drop (64 * lo)).take (64 * n) = (x.now.drop (64 * lo)).take (64 * n) := by
  have hs := crash_size h hl hp
  refine List.ext_getElem? fun i => ?_
  rw [List.getElem?_take, List.getElem?_take]
  split
  · rename_i hi
    rw [List.getElem?_drop, List.getElem?_drop]
    by_cases hb : 64 * lo + i < x.now.length
    · exact crash_clean_at h hl hp hb (hc _ (by omega) (by omega))
    · rw [List.getElem?_eq_none (by omega), List.getElem?_eq_none (by omega)]
  · rfl
/-- A crash that keeps nothing leaves what was synced. -/
theorem crash_old {x : Fl} (h : x.Ok) (hl : x.was.length = x.now.length) {parts : List Nat} (hp : ∀ i, parts.getD i 0 = 0) : x.crash parts = x.was := by
  have hp' : ∀ i, parts.getD i 0 ≤ 64 := fun i => by rw [hp i]; omega
  have hs := crash_size h hl hp'
  obtain ⟨h1, h2, h3⟩ := x.crash_length h hp'
  refine List.ext_getElem? fun i => ?_
  by_cases hi : i < x.now.length
  · rw [x.crash_get h hp' (by omega)]
    have hw : i < x.was.length := by omega
    have hwas : x.was[i]? = some (x.was.getD i 0) := by rw [List.getD_eq_getElem?_getD, List.getElem?_eq_getElem hw]; rfl
    split
    · exact hwas.symm
    · rename_i hno
      refine h.clean i hw ?_
      cases hsh : shas (i / 64) x.soiled with
      | false => rfl
      | true =>
        have hm := shas_mem.1 hsh
        obtain ⟨j, hj, e⟩ := List.getElem_of_mem hm
        rw [List.length_map] at hj
        exact absurd ⟨j, hj, by rw [List.getD_eq_getElem?_getD, List.getElem?_eq_getElem (by rw [List.length_map]; exact hj), e]; rfl, by rw [hp j]; exact Nat.zero_le _⟩ hno
  · rw [List.getElem?_eq_none (by omega), List.getElem?_eq_none (by omega)]
/-- What stands in slot s of a file. -/
def slotAt (bs : List UInt8) (s : Nat) : List UInt8 := bs.drop (4096 * s)
/-- A slot that a crash left whole, where what stands there was written, is the one that was synced or the one under way. -/
theorem crash_slot {x : Fl} (h : x.Ok) {parts : List Nat} (s : Nat) (hone : 0 < slotN (slotAt (x.crash parts) s) →
    (4096 * s + slotN (slotAt (x.crash parts) s) ≤ x.now.length ∧ (slotAt x.now s).take (slotN (slotAt (x.crash parts) s)) = (slotAt (x.crash parts) s).take (slotN (slotAt (x.crash parts) s))) ∨
    (4096 * s + slotN (slotAt (x.crash parts) s) ≤ x.was.length ∧ (slotAt x.was s).take (slotN (slotAt (x.crash parts) s)) = (slotAt (x.crash parts) s).take (slotN (slotAt (x.crash parts) s)))) :
    slotOf (slotAt (x.crash parts) s) = none ∨ slotOf (slotAt (x.crash parts) s) = slotOf (slotAt x.now s) ∨ slotOf (slotAt (x.crash parts) s) = slotOf (slotAt x.was s) := by
  by_cases h0 : 0 < slotN (slotAt (x.crash parts) s)
  · rcases hone h0 with ⟨h1, h2⟩ | ⟨h1, h2⟩
    · exact .inr (.inl (slot_same h0 (by unfold slotAt at *; rw [List.length_drop]; omega) h2).2.symm)
    · exact .inr (.inr (slot_same h0 (by unfold slotAt at *; rw [List.length_drop]; omega) h2).2.symm)
  · refine .inl ?_
    unfold slotOf
    rw [if_pos (by omega)]
end Go.Proofs.YtcmlchicpmnhdaaGreatDoor.Slot
