/-
  Proved: the steps of a law on a disk of which all that matters is named: its directories, its changes that wait, some of its files.
-/
import Derived.Test.YtebjapinhkeafaaDiskBase
namespace Go.Proofs.Ytebjapinhkeafaa.Disk
open Go.RowKit Go.Maps
set_option linter.unusedVariables false
set_option linter.unusedSimpArgs false

/-- A disk that fails no call, with this room, these directories and changes, and these files among its files. -/
structure St (d : Dk) (rm : Int) (N S : Dir) (wt : List Chg) (fs : List (Nat × Fl)) : Prop where
  room : d.room = rm
  calm : d.failing = false
  N : d.N = N
  S : d.S = S
  wait : d.wait = wt
  fl : ∀ p ∈ fs, d.fl p.1 = p.2
theorem St.new (rm : Int) : St (newDk rm []) rm [] [] [] [] := ⟨rfl, rfl, rfl, rfl, rfl, by simp⟩
theorem St.head {d : Dk} {rm : Int} {N S : Dir} {wt : List Chg} {g : Nat} {x : Fl} {fs : List (Nat × Fl)} (h : St d rm N S wt ((g, x) :: fs)) : d.fl g = x := h.fl (g, x) (by simp)
theorem St.put {d : Dk} {rm : Int} {N S : Dir} {wt : List Chg} {g : Nat} {x : Fl} {fs : List (Nat × Fl)} (h : St d rm N S wt ((g, x) :: fs)) (hne : ∀ p ∈ fs, p.1 ≠ g) (y : Fl) : St (d.put g y) rm N S wt ((g, y) :: fs) :=
  ⟨h.room, h.calm, h.N, h.S, h.wait, fun p hp => by
    rcases List.mem_cons.1 hp with rfl | hp
    · exact if_pos rfl
    · exact (if_neg (hne p hp)).trans (h.fl p (by simp [hp]))⟩
theorem St.drop {d : Dk} {rm : Int} {N S : Dir} {wt : List Chg} {g : Nat} {x : Fl} {fs : List (Nat × Fl)} (h : St d rm N S wt ((g, x) :: fs)) : St d rm N S wt fs := ⟨h.room, h.calm, h.N, h.S, h.wait, fun p hp => h.fl p (by simp [hp])⟩
theorem St.swap {d : Dk} {rm : Int} {N S : Dir} {wt : List Chg} {a b : Nat × Fl} {fs : List (Nat × Fl)} (h : St d rm N S wt (a :: b :: fs)) : St d rm N S wt (b :: a :: fs) := ⟨h.room, h.calm, h.N, h.S, h.wait, fun p hp => h.fl p (by
  simp only [List.mem_cons] at hp ⊢
  rcases hp with h | h | h
  · exact .inr (.inl h)
  · exact .inl h
  · exact .inr (.inr h))⟩
theorem create_st {own : Own} {w0 w : World} {f K : Nat} {d : Dk} {rm : Int} {N S : Dir} {wt : List Chg} {fs : List (Nat × Fl)} (s : ByteArray) (h : Held own w0 w f d K) (hS : St d rm N S wt fs) (hs : s.size ≤ maxLen) (hK : K + 1 ≤ 1073741824) (hg : goodName s.data.toList = true) (hl : N.length < 400) (hr : ∀ p ∈ fs, d.refs p.1) :
    Calls Try.prog 13 #[.pointer (some ⟨f, 0, none⟩), .string s] w fun e w' => ∃ own' g d', e = .returned (.int .i64 0) ∧ Held own' w0 w' f d' (K + 1) ∧ St d' rm (dput s.data.toList g (ddel [] N)) S (wt ++ [⟨noName, s, some g⟩]) ((g, emptyFl) :: fs) ∧ (∀ p ∈ fs, p.1 ≠ g) := by
  refine (create_held s h hs hK hS.calm hg (by rw [hS.N]; exact hl)).mono ?_
  rintro e w' ⟨own', g, he, h1, hn, _⟩
  have hne : ∀ p ∈ fs, p.1 ≠ g := fun p hp e => hn (e ▸ hr p hp)
  refine ⟨own', g, _, he, h1, ⟨hS.room, hS.calm, by show dput _ g (ddel [] d.N) = _; rw [hS.N], hS.S, by show d.wait ++ _ = _; rw [hS.wait], fun p hp => ?_⟩, hne⟩
  rcases List.mem_cons.1 hp with rfl | hp
  · exact if_pos rfl
  · exact (if_neg (hne p hp)).trans (hS.fl p hp)
theorem write_st {own : Own} {w0 w : World} {f K g : Nat} {d : Dk} {rm : Int} {N S : Dir} {wt : List Chg} {x : Fl} {fs : List (Nat × Fl)} (s : ByteArray) (a : Nat) (h : Held own w0 w f d K) (hS : St d rm N S wt ((g, x) :: fs)) (hne : ∀ p ∈ fs, p.1 ≠ g) (hs : s.size ≤ maxLen) (hK : K + 1 ≤ 1073741824) (hx : dget s.data.toList N = some g) (ha : a ≤ x.now.length)
    {B : Nat} {A : Option Addr} {m c : Nat} {bs : List UInt8} (hR : Row w B A m (bvs bs)) (hB : B ≤ w.heap.size) (hA : 0 < m → ∀ ad, A = some ad → own ad.block = none) (hc : m ≤ c) (hcm : c ≤ maxLen) (hm : m ≤ 1099511627776)
    (hroom : (total (fun g => (d.fl g).now.length) N : Int) + (a + bs.length - (x.now.length : Int)) ≤ rm) :
    Calls Try.prog 14 #[.pointer (some ⟨f, 0, none⟩), .string s, .int .i64 (a : Int), .slice A m c] w fun e w' => ∃ own' L d', e = .returned (.int .i64 0) ∧ (∀ t, shas t L = (shas t x.soiled || touches a bs.length t)) ∧
      Held own' w0 w' f d' (K + 1) ∧ St d' rm N S wt ((g, ⟨putAt x.now a bs, x.was, L⟩) :: fs) := by
  refine (write_held s a h hs hK hS.calm (by rw [hS.N]; exact hx) (by rw [hS.head]; exact ha) hR hB hA hc hcm hm (by rw [hS.head, hS.N, hS.room]; exact hroom)).mono ?_
  rintro e w' ⟨own', L, he, hL, h1, _⟩
  rw [hS.head] at hL h1
  exact ⟨own', L, _, he, hL, h1, hS.put hne _⟩
/-- .. of bytes that were laid for it. -/
theorem write_fresh {own : Own} {w0 w : World} {f K g : Nat} {d : Dk} {rm : Int} {N S : Dir} {wt : List Chg} {x : Fl} {fs : List (Nat × Fl)} (s : ByteArray) (a : Nat) (h : Held own w0 w f d K) (hS : St d rm N S wt ((g, x) :: fs)) (hne : ∀ p ∈ fs, p.1 ≠ g) (hs : s.size ≤ maxLen) (hK : K + 1 ≤ 1073741824) (hx : dget s.data.toList N = some g) (ha : a ≤ x.now.length)
    (bs : List UInt8) {m : Nat} {cs : Array Value} {fr : Nat × Nat} (hcs : cs = (bvs bs).toArray) (hbs : bs.length = m) (hm : m ≤ 1099511627776) (hroom : (total (fun g => (d.fl g).now.length) N : Int) + (a + bs.length - (x.now.length : Int)) ≤ rm) :
    Calls Try.prog 14 #[.pointer (some ⟨f, 0, none⟩), .string s, .int .i64 (a : Int), .slice (some ⟨w.heap.size, 0, none⟩) m m] (w.alloc (.cells cs 5 fr)) fun e w' => ∃ own' L d', e = .returned (.int .i64 0) ∧ (∀ t, shas t L = (shas t x.soiled || touches a bs.length t)) ∧
      Held own' w0 w' f d' (K + 1) ∧ St d' rm N S wt ((g, ⟨putAt x.now a bs, x.was, L⟩) :: fs) := by
  subst hcs
  have h1 := h.all ((Below.refl _ w).alloc (Nat.le_refl _) (.cells (bvs bs).toArray 5 fr))
  have hR : Row (w.alloc (.cells (bvs bs).toArray 5 fr)) (w.heap.size + 1) (some ⟨w.heap.size, 0, none⟩) m (bvs bs) := by
    have hsz : (bvs bs).toArray.size = m := by rw [List.size_toArray, bvs_length, hbs]
    have := Row.fresh w 5 fr (bvs bs).toArray
    rw [hsz] at this
    exact this
  exact write_st s a h1 hS hne hs hK hx ha hR (by simp) (fun _ ad had => by
    injection had with had
    subst had
    exact h.fresh (Nat.le_refl _)) (Nat.le_refl _) (by unfold maxLen; omega) hm hroom
theorem sync_st {own : Own} {w0 w : World} {f K g : Nat} {d : Dk} {rm : Int} {N S : Dir} {wt : List Chg} {x : Fl} {fs : List (Nat × Fl)} (s : ByteArray) (h : Held own w0 w f d K) (hS : St d rm N S wt ((g, x) :: fs)) (hne : ∀ p ∈ fs, p.1 ≠ g) (hs : s.size ≤ maxLen) (hK : K + 1 ≤ 1073741824) (hx : dget s.data.toList N = some g) :
    Calls Try.prog 15 #[.pointer (some ⟨f, 0, none⟩), .string s] w fun e w' => ∃ own' d', e = .returned (.int .i64 0) ∧ Held own' w0 w' f d' (K + 1) ∧ St d' rm N S wt ((g, ⟨x.now, x.now, []⟩) :: fs) := by
  refine (sync_held s h hs hK hS.calm (by rw [hS.N]; exact hx)).mono ?_
  rintro e w' ⟨own', he, h1, _⟩
  rw [hS.head] at h1
  exact ⟨own', _, he, h1, hS.put hne _⟩
theorem syncDir_st {own : Own} {w0 w : World} {f K : Nat} {d : Dk} {rm : Int} {N S : Dir} {wt : List Chg} {fs : List (Nat × Fl)} (h : Held own w0 w f d K) (hS : St d rm N S wt fs) (hK : K + 1 ≤ 1073741824) :
    Calls Try.prog 16 #[.pointer (some ⟨f, 0, none⟩)] w fun e w' => ∃ own' d', e = .returned (.int .i64 0) ∧ Held own' w0 w' f d' (K + 1) ∧ St d' rm N (foldDir S wt wt.length) [] fs := by
  refine (syncDir_held h hK hS.calm).mono ?_
  rintro e w' ⟨own', he, h1, _⟩
  exact ⟨own', _, he, h1, hS.room, hS.calm, hS.N, by show foldDir d.S d.wait d.wait.length = _; rw [hS.S, hS.wait], rfl, hS.fl⟩
theorem rename_st {own : Own} {w0 w : World} {f K g : Nat} {d : Dk} {rm : Int} {N S : Dir} {wt : List Chg} {fs : List (Nat × Fl)} (s u : ByteArray) (h : Held own w0 w f d K) (hS : St d rm N S wt fs) (hs : s.size ≤ maxLen) (hu : u.size ≤ maxLen) (hK : K + 1 ≤ 1073741824) (hx : dget s.data.toList N = some g) (hg : goodName u.data.toList = true) :
    Calls Try.prog 24 #[.pointer (some ⟨f, 0, none⟩), .string s, .string u] w fun e w' => ∃ own' d', e = .returned (.int .i64 0) ∧ Held own' w0 w' f d' (K + 1) ∧ St d' rm (dput u.data.toList g (ddel s.data.toList N)) S (wt ++ [⟨s, u, some g⟩]) fs := by
  refine (rename_held s u h hs hu hK hS.calm (by rw [hS.N]; exact hx) hg).mono ?_
  rintro e w' ⟨own', he, h1, _⟩
  exact ⟨own', _, he, h1, hS.room, hS.calm, by show dput _ g (ddel _ d.N) = _; rw [hS.N], hS.S, by show d.wait ++ _ = _; rw [hS.wait], hS.fl⟩
theorem St.crashDir {d : Dk} {rm : Int} {N S : Dir} {wt : List Chg} {fs : List (Nat × Fl)} (h : St d rm N S wt fs) (n : Int) : d.crashDir n = (wt.take (min (max n 0) wt.length).toNat).foldl (fun N c => c.on N) S := by rw [Dk.crashDir, h.wait, h.S]
/-- The first file of the directory that a crash leaves. -/
theorem crash_first (fl : Nat → Fl) (keep : List Bool) (torn : Int) (n : Nm) (g : Nat) (r : Dir) : (crashFiles fl keep torn 0 ((n, g) :: r)).find? (fun p => p.1 == n) = some (n, (fl g).crash (partsFor 0 (fl g).soiled.length keep torn)) := by
  rw [crashFiles, List.find?_cons_of_pos (by simp)]
theorem lvs_take (l : List Bool) (k : Nat) : (lvs l).take k = lvs (l.take k) := by simp [lvs, List.map_take]
theorem lvs_length (l : List Bool) : (lvs l).length = l.length := by simp [lvs]
theorem row_of_bools {W : World} {a : Option Addr} {len cap : Nat}
    (h : (a = none ∧ len = 0 ∧ cap = 0) ∨ ∃ (x : Addr) (B : Nat → Bool), a = some x ∧ len ≤ cap ∧ cap ≤ maxLen ∧ ∀ i, i < cap → W.cell? (x.add i) = some (.bool (B i))) :
    ∃ l, Row W W.heap.size a len (lvs l) ∧ len ≤ cap ∧ cap ≤ maxLen := by
  rcases h with ⟨rfl, rfl, rfl⟩ | ⟨x, B, rfl, hl, hm, hcell⟩
  · exact ⟨[], row_of_cells (vs := []) (.inl ⟨rfl, rfl, rfl, rfl⟩)⟩
  · obtain ⟨h1, h2, h3⟩ := row_of_cells (W := W) (a := some x) (len := len) (cap := cap) (vs := lvs ((List.range cap).map B)) (.inr ⟨x, rfl, hl, hm, by simpa [lvs] using hl, fun i v hv => by
      rw [lvs, List.getElem?_map, List.getElem?_map] at hv
      obtain ⟨z, hz1, rfl⟩ := Option.map_eq_some_iff.1 hv
      obtain ⟨y, hy1, rfl⟩ := Option.map_eq_some_iff.1 hz1
      have hi := (List.getElem?_eq_some_iff.1 hy1).1
      rw [List.length_range] at hi
      rw [List.getElem?_range hi] at hy1
      obtain rfl := Option.some.inj hy1
      exact hcell i hi⟩)
    rw [lvs_take] at h1
    exact ⟨_, h1, h2, h3⟩
end Go.Proofs.Ytebjapinhkeafaa.Disk
