/-
  Texts one behind the other: DiskState, DiskSteps, SegRow, Fr.
-/
import Derived.Test.YtcmlchicpmnhdaaGreatDoorG07
import Derived.Test.YtcmlchicpmnhdaaGreatDoorG14
import Derived.Test.YtcmlchicpmnhdaaGreatDoorG32
/-
  Proved: the steps of a law on a disk of which all that matters is named: its directories, its changes that wait, some of its files.
-/
namespace Go.Proofs.YtcmlchicpmnhdaaGreatDoor.Disk
open Go.RowKit Go.Maps
set_option linter.unusedVariables false
set_option linter.unusedSimpArgs false

/-- A disk that fails no call, with this room, these directories and changes, and these files among its files. -/
structure St (d : Dk) (rm : Int) (N S : Dir) (wt : List Chg) (fs : List (Nat × Fl)) : Prop where
  room : d.room = rm
  calm : d.failing = false
  N : d.N = N
  S : d.S = S
  wait : d.wait = wt
  fl : ∀ p ∈ fs, d.fl p.1 = p.2
theorem St.new (rm : Int) : St (newDk rm []) rm [] [] [] [] := ⟨rfl, rfl, rfl, rfl, rfl, by simp⟩
theorem St.head {d : Dk} {rm : Int} {N S : Dir} {wt : List Chg} {g : Nat} {x : Fl} {fs : List (Nat × Fl)} (h : St d rm N S wt ((g, x) :: fs)) : d.fl g = x := h.fl (g, x) (by simp)
theorem St.put {d : Dk} {rm : Int} {N S : Dir} {wt : List Chg} {g : Nat} {x : Fl} {fs : List (Nat × Fl)} (h : St d rm N S wt ((g, x) :: fs)) (hne : ∀ p ∈ fs, p.1 ≠ g) (y : Fl) : St (d.put g y) rm N S wt ((g, y) :: fs) :=
  ⟨h.room, h.calm, h.N, h.S, h.wait, fun p hp => by
    rcases List.mem_cons.1 hp with rfl | hp
    · exact if_pos rfl
    · exact (if_neg (hne p hp)).trans (h.fl p (by simp [hp]))⟩
theorem St.drop {d : Dk} {rm : Int} {N S : Dir} {wt : List Chg} {g : Nat} {x : Fl} {fs : List (Nat × Fl)} (h : St d rm N S wt ((g, x) :: fs)) : St d rm N S wt fs := ⟨h.room, h.calm, h.N, h.S, h.wait, fun p hp => h.fl p (by simp [hp])⟩
theorem St.swap {d : Dk} {rm : Int} {N S : Dir} {wt : List Chg} {a b : Nat × Fl} {fs : List (Nat × Fl)} (h : St d rm N S wt (a :: b :: fs)) : St d rm N S wt (b :: a :: fs) := ⟨h.room, h.calm, h.N, h.S, h.wait, fun p hp => h.fl p (by
  simp only [List.mem_cons] at hp ⊢
  rcases hp with h | h | h
  · exact .inr (.inl h)
  · exact .inl h
  · exact .inr (.inr h))⟩
theorem create_st {own : Own} {w0 w : World} {f K : Nat} {d : Dk} {rm : Int} {N S : Dir} {wt : List Chg} {fs : List (Nat × Fl)} (s : ByteArray) (h : Held own w0 w f d K) (hS : St d rm N S wt fs) (hs : s.size ≤ maxLen) (hK : K + 1 ≤ 1073741824) (hg : goodName s.data.toList = true) (hl : N.length < 400) (hr : ∀ p ∈ fs, d.refs p.1) :
    Calls Tryz.prog 75 #[.pointer (some ⟨f, 0, none⟩), .string s] w fun e w' => ∃ own' g d', e = .returned (.int .i64 0) ∧ Held own' w0 w' f d' (K + 1) ∧ St d' rm (dput s.data.toList g (ddel [] N)) S (wt ++ [⟨noName, s, some g⟩]) ((g, emptyFl) :: fs) ∧ (∀ p ∈ fs, p.1 ≠ g) := by
  refine (create_held s h hs hK hS.calm hg (by rw [hS.N]; exact hl)).mono ?_
  rintro e w' ⟨own', g, he, h1, hn, _⟩
  have hne : ∀ p ∈ fs, p.1 ≠ g := fun p hp e => hn (e ▸ hr p hp)
  refine ⟨own', g, _, he, h1, ⟨hS.room, hS.calm, by show dput _ g (ddel [] d.N) = _; rw [hS.N], hS.S, by show d.wait ++ _ = _; rw [hS.wait], fun p hp => ?_⟩, hne⟩
  rcases List.mem_cons.1 hp with rfl | hp
  · exact if_pos rfl
  · exact (if_neg (hne p hp)).trans (hS.fl p hp)
theorem write_st {own : Own} {w0 w : World} {f K g : Nat} {d : Dk} {rm : Int} {N S : Dir} {wt : List Chg} {x : Fl} {fs : List (Nat × Fl)} (s : ByteArray) (a : Nat) (h : Held own w0 w f d K) (hS : St d rm N S wt ((g, x) :: fs)) (hne : ∀ p ∈ fs, p.1 ≠ g) (hs : s.size ≤ maxLen) (hK : K + 1 ≤ 1073741824) (hx : dget s.data.toList N = some g) (ha : a ≤ x.now.length)
    {B : Nat} {A : Option Addr} {m c : Nat} {bs : List UInt8} (hR : Row w B A m (bvs bs)) (hB : B ≤ w.heap.size) (hA : 0 < m → ∀ ad, A = some ad → own ad.block = none) (hc : m ≤ c) (hcm : c ≤ maxLen) (hm : m ≤ 1099511627776)
    (hroom : (total (fun g => (d.fl g).now.length) N : Int) + (a + bs.length - (x.now.length : Int)) ≤ rm) :
    Calls Tryz.prog 56 #[.pointer (some ⟨f, 0, none⟩), .string s, .int .i64 (a : Int), .slice A m c] w fun e w' => ∃ own' L d', e = .returned (.int .i64 0) ∧ (∀ t, shas t L = (shas t x.soiled || touches a bs.length t)) ∧
      Held own' w0 w' f d' (K + 1) ∧ St d' rm N S wt ((g, ⟨putAt x.now a bs, x.was, L⟩) :: fs) := by
  refine (write_held s a h hs hK hS.calm (by rw [hS.N]; exact hx) (by rw [hS.head]; exact ha) hR hB hA hc hcm hm (by rw [hS.head, hS.N, hS.room]; exact hroom)).mono ?_
  rintro e w' ⟨own', L, he, hL, h1, _⟩
  rw [hS.head] at hL h1
  exact ⟨own', L, _, he, hL, h1, hS.put hne _⟩
/-- .. of bytes that were laid for it. -/
theorem write_fresh {own : Own} {w0 w : World} {f K g : Nat} {d : Dk} {rm : Int} {N S : Dir} {wt : List Chg} {x : Fl} {fs : List (Nat × Fl)} (s : ByteArray) (a : Nat) (h : Held own w0 w f d K) (hS : St d rm N S wt ((g, x) :: fs)) (hne : ∀ p ∈ fs, p.1 ≠ g) (hs : s.size ≤ maxLen) (hK : K + 1 ≤ 1073741824) (hx : dget s.data.toList N = some g) (ha : a ≤ x.now.length)
    (bs : List UInt8) {m : Nat} {cs : Array Value} {fr : Nat × Nat} (hcs : cs = (bvs bs).toArray) (hbs : bs.length = m) (hm : m ≤ 1099511627776) (hroom : (total (fun g => (d.fl g).now.length) N : Int) + (a + bs.length - (x.now.length : Int)) ≤ rm) :
    Calls Tryz.prog 56 #[.pointer (some ⟨f, 0, none⟩), .string s, .int .i64 (a : Int), .slice (some ⟨w.heap.size, 0, none⟩) m m] (w.alloc (.cells cs 5 fr)) fun e w' => ∃ own' L d', e = .returned (.int .i64 0) ∧ (∀ t, shas t L = (shas t x.soiled || touches a bs.length t)) ∧
      Held own' w0 w' f d' (K + 1) ∧ St d' rm N S wt ((g, ⟨putAt x.now a bs, x.was, L⟩) :: fs) := by
  subst hcs
  have h1 := h.all ((Below.refl _ w).alloc (Nat.le_refl _) (.cells (bvs bs).toArray 5 fr))
  have hR : Row (w.alloc (.cells (bvs bs).toArray 5 fr)) (w.heap.size + 1) (some ⟨w.heap.size, 0, none⟩) m (bvs bs) := by
    have hsz : (bvs bs).toArray.size = m := by rw [List.size_toArray, bvs_length, hbs]
    have := Row.fresh w 5 fr (bvs bs).toArray
    rw [hsz] at this
    exact this
  exact write_st s a h1 hS hne hs hK hx ha hR (by simp) (fun _ ad had => by
    injection had with had
    subst had
    exact h.fresh (Nat.le_refl _)) (Nat.le_refl _) (by unfold maxLen; omega) hm hroom
theorem sync_st {own : Own} {w0 w : World} {f K g : Nat} {d : Dk} {rm : Int} {N S : Dir} {wt : List Chg} {x : Fl} {fs : List (Nat × Fl)} (s : ByteArray) (h : Held own w0 w f d K) (hS : St d rm N S wt ((g, x) :: fs)) (hne : ∀ p ∈ fs, p.1 ≠ g) (hs : s.size ≤ maxLen) (hK : K + 1 ≤ 1073741824) (hx : dget s.data.toList N = some g) :
    Calls Tryz.prog 57 #[.pointer (some ⟨f, 0, none⟩), .string s] w fun e w' => ∃ own' d', e = .returned (.int .i64 0) ∧ Held own' w0 w' f d' (K + 1) ∧ St d' rm N S wt ((g, ⟨x.now, x.now, []⟩) :: fs) := by
  refine (sync_held s h hs hK hS.calm (by rw [hS.N]; exact hx)).mono ?_
  rintro e w' ⟨own', he, h1, _⟩
  rw [hS.head] at h1
  exact ⟨own', _, he, h1, hS.put hne _⟩
theorem syncDir_st {own : Own} {w0 w : World} {f K : Nat} {d : Dk} {rm : Int} {N S : Dir} {wt : List Chg} {fs : List (Nat × Fl)} (h : Held own w0 w f d K) (hS : St d rm N S wt fs) (hK : K + 1 ≤ 1073741824) :
    Calls Tryz.prog 49 #[.pointer (some ⟨f, 0, none⟩)] w fun e w' => ∃ own' d', e = .returned (.int .i64 0) ∧ Held own' w0 w' f d' (K + 1) ∧ St d' rm N (foldDir S wt wt.length) [] fs := by
  refine (syncDir_held h hK hS.calm).mono ?_
  rintro e w' ⟨own', he, h1, _⟩
  exact ⟨own', _, he, h1, hS.room, hS.calm, hS.N, by show foldDir d.S d.wait d.wait.length = _; rw [hS.S, hS.wait], rfl, hS.fl⟩
theorem rename_st {own : Own} {w0 w : World} {f K g : Nat} {d : Dk} {rm : Int} {N S : Dir} {wt : List Chg} {fs : List (Nat × Fl)} (s u : ByteArray) (h : Held own w0 w f d K) (hS : St d rm N S wt fs) (hs : s.size ≤ maxLen) (hu : u.size ≤ maxLen) (hK : K + 1 ≤ 1073741824) (hx : dget s.data.toList N = some g) (hg : goodName u.data.toList = true) :
    Calls Tryz.prog 48 #[.pointer (some ⟨f, 0, none⟩), .string s, .string u] w fun e w' => ∃ own' d', e = .returned (.int .i64 0) ∧ Held own' w0 w' f d' (K + 1) ∧ St d' rm (dput u.data.toList g (ddel s.data.toList N)) S (wt ++ [⟨s, u, some g⟩]) fs := by
  refine (rename_held s u h hs hu hK hS.calm (by rw [hS.N]; exact hx) hg).mono ?_
  rintro e w' ⟨own', he, h1, _⟩
  exact ⟨own', _, he, h1, hS.room, hS.calm, by show dput _ g (ddel _ d.N) = _; rw [hS.N], hS.S, by show d.wait ++ _ = _; rw [hS.wait], hS.fl⟩
theorem St.crashDir {d : Dk} {rm : Int} {N S : Dir} {wt : List Chg} {fs : List (Nat × Fl)} (h : St d rm N S wt fs) (n : Int) : d.crashDir n = (wt.take (min (max n 0) wt.length).toNat).foldl (fun N c => c.on N) S := by rw [Dk.crashDir, h.wait, h.S]
/-- The first file of the directory that a crash leaves. -/
theorem crash_first (fl : Nat → Fl) (keep : List Bool) (torn : Int) (n : Nm) (g : Nat) (r : Dir) : (crashFiles fl keep torn 0 ((n, g) :: r)).find? (fun p => p.1 == n) = some (n, (fl g).crash (partsFor 0 (fl g).soiled.length keep torn)) := by
  rw [crashFiles, List.find?_cons_of_pos (by simp)]
theorem lvs_take (l : List Bool) (k : Nat) : (lvs l).take k = lvs (l.take k) := by simp [lvs, List.map_take]
theorem lvs_length (l : List Bool) : (lvs l).length = l.length := by simp [lvs]
theorem row_of_bools {W : World} {a : Option Addr} {len cap : Nat}
    (h : (a = none ∧ len = 0 ∧ cap = 0) ∨ ∃ (x : Addr) (B : Nat → Bool), a = some x ∧ len ≤ cap ∧ cap ≤ maxLen ∧ ∀ i, i < cap → W.cell? (x.add i) = some (.bool (B i))) :
    ∃ l, Row W W.heap.size a len (lvs l) ∧ len ≤ cap ∧ cap ≤ maxLen := by
  rcases h with ⟨rfl, rfl, rfl⟩ | ⟨x, B, rfl, hl, hm, hcell⟩
  · exact ⟨[], row_of_cells (vs := []) (.inl ⟨rfl, rfl, rfl, rfl⟩)⟩
  · obtain ⟨h1, h2, h3⟩ := row_of_cells (W := W) (a := some x) (len := len) (cap := cap) (vs := lvs ((List.range cap).map B)) (.inr ⟨x, rfl, hl, hm, by simpa [lvs] using hl, fun i v hv => by
      rw [lvs, List.getElem?_map, List.getElem?_map] at hv
      obtain ⟨z, hz1, rfl⟩ := Option.map_eq_some_iff.1 hv
      obtain ⟨y, hy1, rfl⟩ := Option.map_eq_some_iff.1 hz1
      have hi := (List.getElem?_eq_some_iff.1 hy1).1
      rw [List.length_range] at hi
      rw [List.getElem?_range hi] at hy1
      obtain rfl := Option.some.inj hy1
      exact hcell i hi⟩)
    rw [lvs_take] at h1
    exact ⟨_, h1, h2, h3⟩
end Go.Proofs.YtcmlchicpmnhdaaGreatDoor.Disk
/-
  Proved: the steps of a law on a disk, as in DiskState, with what they leave alone; rows that are no disk's.
-/
namespace Go.Proofs.YtcmlchicpmnhdaaGreatDoor.Disk
open Go.RowKit Go.Maps
set_option linter.unusedVariables false
set_option linter.unusedSimpArgs false

/-- A row that is no disk's. -/
def Free (own : Own) (w : World) (A : Option Addr) (n : Nat) (vs : List Value) : Prop := vs.length = n ∧ (0 < n → ∃ b o, A = some ⟨b, o, none⟩ ∧ own b = none ∧ b < w.heap.size ∧ ∀ i v, vs[i]? = some v → w.cell? ⟨b, o + i, none⟩ = some v)
theorem Free.row {own : Own} {w : World} {A : Option Addr} {n : Nat} {vs : List Value} (h : Free own w A n vs) : Row w w.heap.size A n vs := by
  refine ⟨h.1, fun hn => ?_⟩
  obtain ⟨b, o, e, _, hb, hc⟩ := h.2 hn
  exact ⟨b, o, e, hb, hc⟩
theorem Free.step {own own' : Own} {f : Nat} {w w' : World} {A : Option Addr} {n : Nat} {vs : List Value} (h : Free own w A n vs) (hs : Step own own' f w w') : Free own' w' A n vs := by
  refine ⟨h.1, fun hn => ?_⟩
  obtain ⟨b, o, e, hf, hb, hc⟩ := h.2 hn
  exact ⟨b, o, e, (hs.same b hb).trans hf, Nat.lt_of_lt_of_le hb hs.size, fun i v hv => (World.cell?_of_block (hs.block b hb fun g => by rw [hf]; simp)).trans (hc i v hv)⟩
theorem Free.keep {own own' : Own} {w w' : World} {A : Option Addr} {n : Nat} {vs : List Value} (h : Free own w A n vs) (hs : ∀ b, b < w.heap.size → own' b = own b) (hb : Below w.heap.size w w') : Free own' w' A n vs := by
  refine ⟨h.1, fun hn => ?_⟩
  obtain ⟨b, o, e, hf, hb', hc⟩ := h.2 hn
  exact ⟨b, o, e, (hs b hb').trans hf, Nat.lt_of_lt_of_le hb' hb.size, fun i v hv => (hb.cell (p := ⟨b, o + i, none⟩) hb').trans (hc i v hv)⟩
/-- .. it lay before the disk. -/
theorem Held.elder {own : Own} {w0 w : World} {f K : Nat} {d : Dk} (h : Held own w0 w f d K) {A : Option Addr} {n : Nat} {vs : List Value} (hR : Row w0 w0.heap.size A n vs) : Free own w A n vs := by
  refine ⟨hR.1, fun hn => ?_⟩
  obtain ⟨b, o, e, hb, hc⟩ := hR.2 hn
  exact ⟨b, o, e, h.free b hb, Nat.lt_of_lt_of_le hb h.below.size, fun i v hv => (h.below.cell (p := ⟨b, o + i, none⟩) hb).trans (hc i v hv)⟩
/-- .. it was laid behind the disk. -/
theorem Held.younger {own : Own} {w0 w w' : World} {f K : Nat} {d : Dk} (h : Held own w0 w f d K) {A : Option Addr} {n : Nat} {vs : List Value} (hR : Row w' w'.heap.size A n vs) (hge : 0 < n → ∀ ad, A = some ad → w.heap.size ≤ ad.block) : Free own w' A n vs := by
  refine ⟨hR.1, fun hn => ?_⟩
  obtain ⟨b, o, e, hb, hc⟩ := hR.2 hn
  exact ⟨b, o, e, h.fresh (hge hn _ e), hb, hc⟩
theorem Free.none_at {own : Own} {w : World} {A : Option Addr} {n : Nat} {vs : List Value} (h : Free own w A n vs) (hn : 0 < n) : ∀ ad, A = some ad → own ad.block = none := by
  intro ad had
  obtain ⟨b, o, e, hf, _⟩ := h.2 hn
  rw [e] at had
  injection had with had
  rw [← had]
  exact hf
theorem create_go {own : Own} {w0 w : World} {f K : Nat} {d : Dk} {rm : Int} {N S : Dir} {wt : List Chg} {fs : List (Nat × Fl)} (s : ByteArray) (h : Held own w0 w f d K) (hS : St d rm N S wt fs) (hs : s.size ≤ maxLen) (hK : K + 1 ≤ 1073741824) (hg : goodName s.data.toList = true) (hl : N.length < 400) (hr : ∀ p ∈ fs, d.refs p.1) :
    Calls Tryz.prog 75 #[.pointer (some ⟨f, 0, none⟩), .string s] w fun e w' => ∃ own' g d', e = .returned (.int .i64 0) ∧ Held own' w0 w' f d' (K + 1) ∧ St d' rm (dput s.data.toList g (ddel [] N)) S (wt ++ [⟨noName, s, some g⟩]) ((g, emptyFl) :: fs) ∧ (∀ p ∈ fs, p.1 ≠ g) ∧ Step own own' f w w' := by
  refine (create_held s h hs hK hS.calm hg (by rw [hS.N]; exact hl)).mono ?_
  rintro e w' ⟨own', g, he, h1, hn, hst⟩
  have hne : ∀ p ∈ fs, p.1 ≠ g := fun p hp e => hn (e ▸ hr p hp)
  refine ⟨own', g, _, he, h1, ⟨hS.room, hS.calm, by show dput _ g (ddel [] d.N) = _; rw [hS.N], hS.S, by show d.wait ++ _ = _; rw [hS.wait], fun p hp => ?_⟩, hne, hst⟩
  rcases List.mem_cons.1 hp with rfl | hp
  · exact if_pos rfl
  · exact (if_neg (hne p hp)).trans (hS.fl p hp)
theorem write_go {own : Own} {w0 w : World} {f K g : Nat} {d : Dk} {rm : Int} {N S : Dir} {wt : List Chg} {x : Fl} {fs : List (Nat × Fl)} (s : ByteArray) (a : Nat) (h : Held own w0 w f d K) (hS : St d rm N S wt ((g, x) :: fs)) (hne : ∀ p ∈ fs, p.1 ≠ g) (hs : s.size ≤ maxLen) (hK : K + 1 ≤ 1073741824) (hx : dget s.data.toList N = some g) (ha : a ≤ x.now.length)
    {A : Option Addr} {m c : Nat} {bs : List UInt8} (hR : Free own w A m (bvs bs)) (hc : m ≤ c) (hcm : c ≤ maxLen) (hm : m ≤ 1099511627776)
    (hroom : (total (fun g => (d.fl g).now.length) N : Int) + (a + bs.length - (x.now.length : Int)) ≤ rm) :
    Calls Tryz.prog 56 #[.pointer (some ⟨f, 0, none⟩), .string s, .int .i64 (a : Int), .slice A m c] w fun e w' => ∃ own' L d', e = .returned (.int .i64 0) ∧ (∀ t, shas t L = (shas t x.soiled || touches a bs.length t)) ∧
      Held own' w0 w' f d' (K + 1) ∧ St d' rm N S wt ((g, ⟨putAt x.now a bs, x.was, L⟩) :: fs) ∧ Step own own' f w w' := by
  refine (write_held s a h hs hK hS.calm (by rw [hS.N]; exact hx) (by rw [hS.head]; exact ha) hR.row (Nat.le_refl _) hR.none_at hc hcm hm (by rw [hS.head, hS.N, hS.room]; exact hroom)).mono ?_
  rintro e w' ⟨own', L, he, hL, h1, hst⟩
  rw [hS.head] at hL h1
  exact ⟨own', L, _, he, hL, h1, hS.put hne _, hst⟩
theorem sync_go {own : Own} {w0 w : World} {f K g : Nat} {d : Dk} {rm : Int} {N S : Dir} {wt : List Chg} {x : Fl} {fs : List (Nat × Fl)} (s : ByteArray) (h : Held own w0 w f d K) (hS : St d rm N S wt ((g, x) :: fs)) (hne : ∀ p ∈ fs, p.1 ≠ g) (hs : s.size ≤ maxLen) (hK : K + 1 ≤ 1073741824) (hx : dget s.data.toList N = some g) :
    Calls Tryz.prog 57 #[.pointer (some ⟨f, 0, none⟩), .string s] w fun e w' => ∃ own' d', e = .returned (.int .i64 0) ∧ Held own' w0 w' f d' (K + 1) ∧ St d' rm N S wt ((g, ⟨x.now, x.now, []⟩) :: fs) ∧ Step own own' f w w' := by
  refine (sync_held s h hs hK hS.calm (by rw [hS.N]; exact hx)).mono ?_
  rintro e w' ⟨own', he, h1, hst⟩
  rw [hS.head] at h1
  exact ⟨own', _, he, h1, hS.put hne _, hst⟩
theorem syncDir_go {own : Own} {w0 w : World} {f K : Nat} {d : Dk} {rm : Int} {N S : Dir} {wt : List Chg} {fs : List (Nat × Fl)} (h : Held own w0 w f d K) (hS : St d rm N S wt fs) (hK : K + 1 ≤ 1073741824) :
    Calls Tryz.prog 49 #[.pointer (some ⟨f, 0, none⟩)] w fun e w' => ∃ own' d', e = .returned (.int .i64 0) ∧ Held own' w0 w' f d' (K + 1) ∧ St d' rm N (foldDir S wt wt.length) [] fs ∧ Step own own' f w w' := by
  refine (syncDir_held h hK hS.calm).mono ?_
  rintro e w' ⟨own', he, h1, hst⟩
  exact ⟨own', _, he, h1, ⟨hS.room, hS.calm, hS.N, by show foldDir d.S d.wait d.wait.length = _; rw [hS.S, hS.wait], rfl, hS.fl⟩, hst⟩
theorem crash_go {own : Own} {w0 w : World} {f K : Nat} {d : Dk} (n torn : Int) (h : Held own w0 w f d K) {B : Nat} {A : Option Addr} {m c : Nat} {keep : List Bool} (hR : Row w B A m (lvs keep)) (hB : B ≤ w.heap.size) (hm : m ≤ 1099511627776) :
    Calls Tryz.prog 13 #[.pointer (some ⟨f, 0, none⟩), .int .i64 n, .slice A m c, .int .i64 torn] w fun e w' => ∃ own' f' d', e = .returned (.pointer (some ⟨f', 0, none⟩)) ∧ Held own' w0 w' f d K ∧ Held own' w0 w' f' d' K ∧ d.Crashed d' n keep torn ∧ f' ≠ f ∧ (∀ b, b < w.heap.size → own' b = own b) ∧ Below w.heap.size w w' := by
  refine (crash_any (c := c) n torn h.disk hR hB hm).mono ?_
  rintro e w' ⟨own', f', d', he, hge, hd, hc, hb, hs, _⟩
  have hk := h.beside hb hs hd.top
  have hlt := h.disk.lt
  exact ⟨own', f', d', he, hk, ⟨hd, hk.below, hk.free⟩, hc, by omega, hs, hb⟩
/-- What a call has laid for its answer. -/
theorem Held.answer {own : Own} {w0 w w' : World} {f K : Nat} {d : Dk} (h : Held own w0 w f d K) {A : Option Addr} {n c : Nat} {xs : List UInt8} (hr : w'.ownsRow w.heap.size 5 1 (.slice A n c) n (bvs xs)) : Free own w' A n (bvs xs) := by
  refine h.younger (Row.own hr) fun hn ad had => ?_
  rcases hr.2 with ⟨e, _⟩ | ⟨g, cap, cur, e, hb, _⟩
  · injection e with e1 e2 e3; omega
  · injection e with e1 e2 e3
    rw [e1] at had
    injection had with had
    rw [← had]
    exact hb
theorem St.look {d : Dk} {rm : Int} {N S : Dir} {wt : List Chg} {g : Nat} {x : Fl} {fs : List (Nat × Fl)} (h : St d rm N S wt ((g, x) :: fs)) {n : Nm} (hx : dget n N = some g) : d.look n = some x := by
  rw [Dk.look, h.N, hx]
  exact congrArg some h.head
theorem putAt_start (xs : List UInt8) : putAt [] 0 xs = xs := by simp [putAt]
end Go.Proofs.YtcmlchicpmnhdaaGreatDoor.Disk
/-
  Rows of the call's own that grow while a disk beside them changes.
-/
namespace Go.Proofs.YtcmlchicpmnhdaaGreatDoor.Seg
open Go.RowKit Go.Proofs.YtcmlchicpmnhdaaGreatDoor.Disk Go.Proofs.YtcmlchicpmnhdaaGreatDoor.Rec
set_option linter.unusedVariables false
set_option linter.unusedSimpArgs false

/-- A row of the call's own that is no disk's. -/
structure Grow (own : Own) (w : World) (base : Nat) (e : TypeId) (k : Nat) (v : Value) (n : Nat) (xs : List Value) : Prop where
  row : w.ownsRow base e k v n xs
  free : ∀ g, v.ownBlock = some g → own g = none
theorem Grow.nil (own : Own) (w : World) (base : Nat) (e : TypeId) (k : Nat) : Grow own w base e k (.slice none 0 0) 0 [] := ⟨World.ownsRow_nil _ _ _ _, fun g h => by simp [Value.ownBlock] at h⟩
/-- A row stays where its block does. -/
theorem owns_same {w w' : World} {base k n : Nat} {e : TypeId} {v : Value} {xs : List Value} (h : w.ownsRow base e k v n xs) (hb : ∀ g, v.ownBlock = some g → w'.heap[g]? = w.heap[g]?) : w'.ownsRow base e k v n xs := by
  refine ⟨h.1, ?_⟩
  rcases h.2 with h0 | ⟨g, cap, cur, hv, h1, h2, h3⟩
  · exact .inl h0
  · exact .inr ⟨g, cap, cur, hv, h1, (hb g (by rw [hv]; rfl)).trans h2, h3⟩
theorem Grow.step {own own' : Own} {f base k n : Nat} {w w' : World} {e : TypeId} {v : Value} {xs : List Value} (h : Grow own w base e k v n xs) (hs : Step own own' f w w') : Grow own' w' base e k v n xs := by
  have hlt : ∀ g, v.ownBlock = some g → g < w.heap.size := fun g hg => (h.row.lt g hg).2
  exact ⟨owns_same h.row fun g hg => hs.block g (hlt g hg) (fun x e => by rw [h.free g hg] at e; cases e), fun g hg => (hs.same g (hlt g hg)).trans (h.free g hg)⟩
theorem Grow.all {own : Own} {base k n : Nat} {w w' : World} {e : TypeId} {v : Value} {xs : List Value} (h : Grow own w base e k v n xs) (hb : Below w.heap.size w w') : Grow own w' base e k v n xs :=
  ⟨owns_same h.row fun g hg => hb.block g (h.row.lt g hg).2, h.free⟩
/-- .. beside a disk that was made. -/
theorem Grow.made {own own' : Own} {base k n : Nat} {w w' : World} {e : TypeId} {v : Value} {xs : List Value} (h : Grow own w base e k v n xs) (hb : Below w.heap.size w w') (hs : ∀ b, b < w.heap.size → own' b = own b) : Grow own' w' base e k v n xs :=
  ⟨owns_same h.row fun g hg => hb.block g (h.row.lt g hg).2, fun g hg => (hs g (h.row.lt g hg).2).trans (h.free g hg)⟩
/-- .. beside another row that grew, of another kind of cells. -/
theorem Grow.beside {own : Own} {base k n : Nat} {w w' : World} {e : TypeId} {v : Value} {xs : List Value} {row : Option Nat} (h : Grow own w base e k v n xs) (hg : w.grownBy w' row) (hne : v.ownBlock = none ∨ v.ownBlock ≠ row) : Grow own w' base e k v n xs :=
  ⟨h.row.kept hg hne, h.free⟩
theorem Grow.form {own : Own} {base k n : Nat} {w : World} {e : TypeId} {v : Value} {xs : List Value} (h : Grow own w base e k v n xs) : ∃ A c, v = .slice A n c ∧ n ≤ c ∧ c ≤ maxLen ∧ Free own w A (n * k) xs := by
  rcases h.row.2 with ⟨h0, h1⟩ | ⟨g, cap, cur, hv, hg0, hg, hnc, hm, hcs, hx⟩
  · subst h1
    exact ⟨none, 0, h0, Nat.le_refl _, by decide, by rw [h.row.1], fun hn => by omega⟩
  · refine ⟨_, cap, hv, hnc, hm, h.row.1, fun hn => ?_⟩
    obtain ⟨A, c, e, _, _, hrow⟩ := own_row h.row
    rw [hv] at e
    injection e with e1 e2 e3
    obtain ⟨b, o, e4, hlt, hcell⟩ := hrow.2 hn
    rw [← e1] at e4
    injection e4 with e4
    injection e4 with e5 e6
    subst e5 e6
    exact ⟨g, 0, rfl, h.free g (by rw [hv]; rfl), hlt, hcell⟩
section
variable {own : Own} {w : World} {ops : Array Oper} {rest : List Oper} {o : Oper} {a : Act} {Q : Exit → Act → World → Prop}
/-- An append onto such a row; its source is any slice that reads as a list and is not empty. -/
theorem grow_append (ht : ∀ b p, own b = some p → b < w.heap.size) {base : Nat} {e : TypeId} {k n : Nat} {v : Value} {xs : List Value} (h : Grow own w base e k v n xs) (hbase : base ≤ w.heap.size) (hgd : o.guard = none) (s y : Operand) (T : TypeId)
    (ho : o.op = .call { callee := .builtin .append, args := #[s, y], argTypes := #[T, T] }) (z : Value) (by' : Nat) (hT : Tryz.prog.underlying T = some (.slice e)) (hi : (Tryz.prog.info? e).map (fun i => (i.zero, i.size, i.bytes)) = some (some z, k, by')) (hz : z.cells.size = k) (hk : 0 < k) (hby : by' ≤ 64)
    (hs : a.eval s = v) (ad : Addr) (m c : Nat) (news : List Value) (hy : a.eval y = .slice (some ad) m c) (hl : news.length = m * k) (hq : ∀ j u, news[j]? = some u → w.cell? (ad.add j) = some u) (h1 : ∀ u ∈ news, u.oneCell' = true) (hn : n + m ≤ 100000000)
    (K : ∀ v' w', Hid (Grow own w' base e k v' (n + m) (xs ++ news)) → Hid (w.grownBy w' v.ownBlock) → wpList Tryz.prog ops Q rest (a.put o.dst v') w') : wpList Tryz.prog ops Q (o :: rest) a w := by
  refine wpList_append_where hgd s y T ho base e z k by' hT hi hz hk v n xs hs h.row ad m c news hy hl hq h1 (by unfold maxLen; omega) ?_ hbase ?_
  · have : (n + m) * by' ≤ (n + m) * 64 := Nat.mul_le_mul_left _ hby
    omega
  · intro v' w' h2 h3 h4
    refine K v' w' ⟨h2.out, fun g hg => ?_⟩ h3
    rcases h4.out with e4 | e4
    · exact h.free g (by rw [← e4]; exact hg)
    · cases ho : own g with
      | none => rfl
      | some x => have := ht g x ho; have := e4 g hg; omega
end
end Go.Proofs.YtcmlchicpmnhdaaGreatDoor.Seg
/-
  What a call leaves alone beside disks and what stands on them: plain facts on worlds.
-/
namespace Go.Proofs.YtcmlchicpmnhdaaGreatDoor.Seg
open Go.RowKit Go.Proofs.YtcmlchicpmnhdaaGreatDoor.Disk Go.Proofs.YtcmlchicpmnhdaaGreatDoor.Rec
set_option linter.unusedVariables false
set_option linter.unusedSimpArgs false

/-- Nothing that is no disk's and no segment's was changed. -/
structure Fr (own own' : Own) (w w' : World) : Prop where
  os : w'.os = w.os
  tape : w'.tape = w.tape
  output : w'.output = w.output
  size : w.heap.size ≤ w'.heap.size
  same : ∀ b, b < w.heap.size → own' b = own b
  block : ∀ b, b < w.heap.size → own b = none → w'.heap[b]? = w.heap[b]?
theorem Fr.refl (own : Own) (w : World) : Fr own own w w := ⟨rfl, rfl, rfl, Nat.le_refl _, fun _ _ => rfl, fun _ _ _ => rfl⟩
theorem Fr.trans {o1 o2 o3 : Own} {w1 w2 w3 : World} (h : Fr o1 o2 w1 w2) (k : Fr o2 o3 w2 w3) : Fr o1 o3 w1 w3 :=
  ⟨k.os.trans h.os, k.tape.trans h.tape, k.output.trans h.output, Nat.le_trans h.size k.size, fun b hb => (k.same b (Nat.lt_of_lt_of_le hb h.size)).trans (h.same b hb),
   fun b hb ho => (k.block b (Nat.lt_of_lt_of_le hb h.size) ((h.same b hb).trans ho)).trans (h.block b hb ho)⟩
theorem Fr.of_below {own : Own} {w w' : World} (h : Below w.heap.size w w') : Fr own own w w' := ⟨h.os, h.tape, h.output, h.size, fun _ _ => rfl, fun b hb _ => h.block b hb⟩
theorem Fr.of_step {own own' : Own} {f : Nat} {w w' : World} (h : Step own own' f w w') : Fr own own' w w' := ⟨h.os, h.tape, h.output, h.size, h.same, fun b hb ho => h.block b hb (fun g e => by rw [ho] at e; cases e)⟩
theorem Grow.fr {own own' : Own} {base k n : Nat} {w w' : World} {e : TypeId} {v : Value} {xs : List Value} (h : Grow own w base e k v n xs) (hs : Fr own own' w w') : Grow own' w' base e k v n xs := by
  have hlt : ∀ g, v.ownBlock = some g → g < w.heap.size := fun g hg => (h.row.lt g hg).2
  exact ⟨owns_same h.row fun g hg => hs.block g (hlt g hg) (h.free g hg), fun g hg => (hs.same g (hlt g hg)).trans (h.free g hg)⟩
theorem free_fr {own own' : Own} {w w' : World} {A : Option Addr} {n : Nat} {vs : List Value} (h : Free own w A n vs) (hs : Fr own own' w w') : Free own' w' A n vs := by
  refine ⟨h.1, fun hn => ?_⟩
  obtain ⟨b, o, rfl, ho, hb, hc⟩ := h.2 hn
  exact ⟨b, o, rfl, (hs.same b hb).trans ho, Nat.lt_of_lt_of_le hb hs.size, fun i v hv => (World.cell?_of_block (a := ⟨b, o + i, none⟩) (hs.block b hb ho)).trans (hc i v hv)⟩
theorem free_at {own : Own} {w : World} {b o n : Nat} {vs : List Value} (h : Free own w (some ⟨b, o, none⟩) n vs) (i : Nat) (v : Value) (hv : vs[i]? = some v) : w.cell? ⟨b, o + i, none⟩ = some v := by
  have hi : 0 < n := by
    have := (List.getElem?_eq_some_iff.1 hv).1
    have := h.1
    omega
  obtain ⟨b', o', e, _, _, hc⟩ := h.2 hi
  injection e with e
  injection e with e1 e2
  subst e1 e2
  exact hc i v hv
def ptr (a : Nat) : Value := .pointer (some ⟨a, 0, none⟩)
def mark (own : Own) (g : Nat) : Own := fun b => if b = g then some (g, g) else own b
theorem mark_old {own : Own} {g b : Nat} (h : b < g) : mark own g b = own b := if_neg (by omega)
theorem mark_top {own : Own} {w : World} (ht : ∀ b q, own b = some q → b < w.heap.size) (o : Obj) : ∀ b q, mark own w.heap.size b = some q → b < (w.alloc o).heap.size := by
  intro b q h
  unfold mark at h
  split at h
  · simp; omega
  · have := ht b q h; simp; omega
end Go.Proofs.YtcmlchicpmnhdaaGreatDoor.Seg
