/-
  slices.Sort at []uint64; slices.Compact of what it leaves: the row's numbers, each once, rising.
-/
import Derived.Test.YtcmblihlbmclaaaUsPdq
import Derived.Shelf.SortM.So_math_bits_LenIn
import Derived.Shelf.SlicesE.Compact
namespace Go.Proofs.Ytcmblihlbmclaaa
open Go Go.RowKit Go.Sort Go.Joins Go.Lib

theorem updq_any (w : World) (b o cap n x y lim : Nat) (d : Array Int) (hH : Holds (Value.int .u64) w b o d) (hn : d.size = n) (hsz : n < 1152921504606846976) (hb : b < w.heap.size) (hxy : x ≤ y) (hy : y ≤ n) (hl : lim ≤ 100) (hB : Below ltInt x y d) :
    Calls Try.prog 40 #[.slice (some ⟨b, o, none⟩) n cap, .int .i64 x, .int .i64 y, .int .i64 lim] w fun e w' => e = .returned (.tuple #[]) ∧ ∃ D, PermIn x y d D ∧ SortedIn ltInt x y D ∧ UAt w w' b o D :=
  Nat.strongRecOn (motive := PdqAt) (y - x) (fun N IH => updq_step N IH) w b o cap n x y lim d hH hn hsz hb hxy hy rfl hl hB
theorem ulen_any (n : Nat) (hn : n < 1152921504606846976) (w : World) : Calls Try.prog 41 #[.int .u64 n] w fun e w' => (∃ k : Nat, e = .returned (.int .i64 k) ∧ k ≤ 100) ∧ w' = w := by
  refine (show Calls Try.prog 41 _ _ _ from calls_of_every_depth fun D => AnySM.bits_LenIn Try.lenU D n w (by omega) (by omega)).mono ?_
  rintro e w' ⟨rfl, rfl⟩
  refine ⟨⟨_, rfl, ?_⟩, rfl⟩
  rw [Int.toNat_natCast, bitLen_eq _ (by omega)]
  exact Nat.le_trans ((bitsLen_le_iff n 62).2 (by omega)) (by decide)

set_option maxHeartbeats 2000000 in
set_option maxRecDepth 100000 in
theorem usort_any (w : World) (b o cap n : Nat) (d : Array Int) (hH : Holds (Value.int .u64) w b o d) (hn : d.size = n) (hsz : n < 1152921504606846976) (hb : b < w.heap.size) :
    Calls Try.prog 32 #[.slice (some ⟨b, o, none⟩) n cap] w fun e w' => e = .returned (.tuple #[]) ∧ ∃ D, PermIn 0 n d D ∧ SortedIn ltInt 0 n D ∧ UAt w w' b o D := by
  have HL := Lib.hid (ulen_any n hsz)
  have HP := Lib.hid (fun lim hl => updq_any w b o cap n 0 n lim d hH hn hsz hb (Nat.zero_le _) (Nat.le_refl _) hl (.inl rfl))
  clear hH hn
  go_enter Try.func32, Try.ntmps32
  go_wp2_with (go_at_call 41; refine (HL.out _).mono ?_; rintro e w' ⟨⟨k, rfl, hk⟩, rfl⟩; have HK := Lib.hid hk; clear hk)
  refine (show Calls _ _ _ _ _ from HP.out k HK.out).mono ?_
  rintro e w1 ⟨rfl, h⟩
  have H := Lib.hid h
  clear h
  go_wp2_with fail
  go_end0
  exact ⟨rfl, H.out⟩

/-! ### What is left of a sorted row when it is compacted -/
theorem comp_facts {d : Array Int} {n : Nat} (hs : SortedIn ltInt 0 n d) : ∀ m, m ≤ n → (compactUpTo d m).Pairwise (· < ·) ∧ (∀ z, z ∈ compactUpTo d m ↔ ∃ j, j < m ∧ d[j]! = z) ∧ ∀ z ∈ compactUpTo d m, ∀ j, m ≤ j + 1 → j < n → z ≤ d[j]! := by
  have hle : ∀ i j, i ≤ j → j < n → d[i]! ≤ d[j]! := fun i j h1 h2 => by
    rcases Nat.eq_or_lt_of_le h1 with rfl | h
    · exact Int.le_refl _
    · have := hs i j (Nat.zero_le _) h h2
      simp only [ltInt, decide_eq_false_iff_not] at this
      omega
  intro m
  induction m with
  | zero => intro _; exact ⟨List.Pairwise.nil, fun z => by simp [compactUpTo], fun z hz => by simp [compactUpTo] at hz⟩
  | succ m ih =>
    intro hm
    obtain ⟨h1, h2, h3⟩ := ih (by omega)
    rw [compactUpTo_succ]
    have hmem : ∀ z, (z ∈ compactUpTo d m ++ (if keeps d m then [d[m]!] else [])) ↔ ∃ j, j < m + 1 ∧ d[j]! = z := by
      intro z
      rw [List.mem_append, h2]
      constructor
      · rintro (⟨j, hj, e⟩ | h)
        · exact ⟨j, by omega, e⟩
        · split at h
          · exact ⟨m, by omega, (List.mem_singleton.1 h).symm⟩
          · cases h
      · rintro ⟨j, hj, e⟩
        rcases Nat.lt_or_ge j m with g | g
        · exact .inl ⟨j, g, e⟩
        · obtain rfl : j = m := by omega
          by_cases hk : keeps d j = true
          · exact .inr (by rw [if_pos hk]; simp [e])
          · simp only [keeps, decide_eq_true_eq, not_or, Decidable.not_not] at hk
            exact .inl ⟨j - 1, by omega, by rw [← hk.2]; exact e⟩
    refine ⟨?_, hmem, ?_⟩
    · by_cases hk : keeps d m = true
      · rw [if_pos hk, List.pairwise_append]
        refine ⟨h1, List.pairwise_singleton _ _, fun a ha b hb => ?_⟩
        rw [List.mem_singleton.1 hb]
        obtain ⟨j, hj, e⟩ := (h2 a).1 ha
        have hne : d[m]! ≠ d[m - 1]! := by
          simp only [keeps, decide_eq_true_eq] at hk
          exact hk.resolve_left (by omega)
        have h4 := hle j (m - 1) (by omega) (by omega)
        have h5 := hle (m - 1) m (by omega) (by omega)
        omega
      · rw [if_neg hk, List.append_nil]; exact h1
    · intro z hz j hj hjn
      obtain ⟨i, hi, e⟩ := (hmem z).1 hz
      rw [← e]
      exact hle i j (by omega) hjn
theorem perm_mem {d D : Array Int} {n : Nat} (hn : d.size = n) (h : PermIn 0 n d D) (z : Int) : (∃ j, j < n ∧ D[j]! = z) ↔ z ∈ d.toList := by
  have e1 : (D.extract 0 n).toList = (List.range' 0 (n - 0)).map fun i => D[i]! := extract_toList D 0 n (by rw [h.1]; omega)
  have e2 : (d.extract 0 n).toList = d.toList := by rw [← hn, Array.extract_size]
  have h3 := h.2.2.mem_iff (a := z)
  rw [e2, e1, List.mem_map] at h3
  rw [← h3]
  constructor
  · rintro ⟨j, hj, e⟩; exact ⟨j, List.mem_range'_1.2 ⟨Nat.zero_le _, by omega⟩, e⟩
  · rintro ⟨j, hj, e⟩; exact ⟨j, by have := (List.mem_range'_1.1 hj).2; omega, e⟩
theorem one_u64 : OneCell (Value.int .u64) := fun _ => rfl

/-- The numbers of a list, each once, rising. -/
structure Rising (l L : List Int) : Prop where
  asc : L.Pairwise (· < ·)
  mem : ∀ z, z ∈ L ↔ z ∈ l
theorem ucompact_any (w : World) (b o cap n : Nat) (l : List Int) (D : Array Int) (hs : SortedIn ltInt 0 n D) (hp : PermIn 0 n l.toArray D) (hl : l.length = n) (hH : Holds (Value.int .u64) w b o D) (hsz : n < 1152921504606846976) (hcap : n ≤ cap) :
    Calls Try.prog 33 #[.slice (some ⟨b, o, none⟩) n cap] w fun e w' => ∃ L, e = .returned (.slice (some ⟨b, o, none⟩) L.length cap) ∧ Rising l L ∧ L.length ≤ n ∧ Holds (Value.int .u64) w' b o L.toArray ∧ Keeps (fun i => i ≠ b) w w' := by
  have hn : D.size = n := by rw [hp.1]; simpa using hl
  subst hn
  obtain ⟨h1, h2, -⟩ := comp_facts hs D.size (Nat.le_refl _)
  refine (show Calls Try.prog 33 _ _ _ from AnyE.slices_Compact Try.compactU (Value.int .u64) one_u64 (EqlAt.intD _ _ .u64) (NeqAt.intD _ _ .u64) 0 Try.zeroValue30 b o cap D w hH (by omega) hcap).mono ?_
  rintro e w' ⟨rfl, q, rfl⟩
  have hlen : (compactUpTo D D.size).length ≤ D.size := by
    unfold compactUpTo
    rw [List.length_map]
    exact Nat.le_trans (List.length_filter_le _ _) (by simp)
  refine ⟨compactUpTo D D.size, rfl, ⟨h1, fun z => ?_⟩, hlen, ?_, ?_⟩
  · rw [h2, perm_mem (by simpa using hl) hp]
  · have h3 := holds_putRow (Value.int .u64) (Sort.ahead w q) b o D (compactUpTo D D.size ++ List.replicate (D.size - (compactUpTo D D.size).length) 0).toArray hH (by simp; omega)
    intro j hj
    have h4 := h3 j (by simp at hj ⊢; omega)
    have h5 : (compactUpTo D D.size ++ List.replicate (D.size - (compactUpTo D D.size).length) 0).toArray[j]! = (compactUpTo D D.size).toArray[j]! := by
      have hj' : j < (compactUpTo D D.size).length := by simpa using hj
      rw [getElem!_pos _ j (by simp; omega), getElem!_pos _ j hj]
      simp [List.getElem_append_left hj']
    rw [h5] at h4
    exact h4
  · refine ⟨rfl, rfl, rfl, by simp, fun i hi hlt => ?_⟩
    show (mapBlock _ b _).heap[i]? = _
    simp only [mapBlock, Array.getElem?_modify]
    rw [if_neg (fun e => hi e.symm)]
    rfl

end Go.Proofs.Ytcmblihlbmclaaa
