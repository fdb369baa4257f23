/- The matrix of a local code: the identity, a row of ones for each group, Cauchy's rows. Both sides' rows of a group are the same. -/
import Derived.Test.YtlkoafnlklhaeaaDoorParity
import Derived.Test.YtlkoafnlklhaeaaDoorCodeM
set_option linter.unusedSimpArgs false
set_option linter.unusedVariables false
namespace G294
/-- the model's row of the group p: ones from p * e on, e of them -/
def onesF (p e : Nat) (j : Nat) : UInt8 := if p * e ≤ j ∧ j < p * e + e then 1 else 0
theorem parF_ones {d e g p : Nat} (he : 1 ≤ e) (hp : p < g) (hd : d = g * e) : mkRow d (parF (grp2 d e g (p : Int))) = mkRow d (onesF p e) := by
  refine mkRow_congr fun j hj => ?_
  have hm := mem_grp he hd (j : Int) p hp
  have hn : grpN d e g (j : Int) = ((j / e : Nat) : Int) := by unfold grpN; rw [if_pos (by omega)]; simp
  rw [hn] at hm
  have hq : (((j / e : Nat) : Int) = (p : Int)) ↔ (p * e ≤ j ∧ j < p * e + e) := by
    constructor
    · intro h
      have h' : j / e = p := by omega
      have h1 := Nat.div_mul_le_self j e
      have h2 := Nat.lt_div_mul_add (a := j) (b := e) (by omega)
      rw [h'] at h1 h2
      exact ⟨h1, h2⟩
    · rintro ⟨h1, h2⟩
      have : j / e = p := Nat.div_eq_of_lt_le h1 (by rw [Nat.succ_mul]; exact h2)
      rw [this]
  unfold parF onesF
  by_cases h : p * e ≤ j ∧ j < p * e + e
  · rw [if_pos h, if_pos (hm.2 (hq.2 h))]
  · rw [if_neg h, if_neg (fun h2 => h (hq.1 (hm.1 h2)))]
/-- the members of a group are no negative numbers -/
theorem grp_pos {d e g : Nat} (p : Nat) : ∀ x ∈ grp2 d e g (p : Int), 0 ≤ x := by
  intro x hx
  unfold grp2 at hx
  rcases List.mem_append.1 hx with h | h
  · unfold grp1 at h
    obtain ⟨t, _, rfl⟩ := List.mem_map.1 h
    omega
  · split at h
    · rw [List.mem_singleton] at h; omega
    · cases h
/-- the matrix of a local code -/
def locF (d e g : Nat) : Ents := fun i j => if i < d then idF i j else if i < d + g then onesF (i - d) e j else cauF d (i - d - g) j
def locM (g e q : Nat) : Mat := mkM (g * e + g + q) (g * e) (locF (g * e) e g)
/-- .. after k of its groups -/
def locP (d e g k : Nat) : Mat := mkM (d + k) d (locF d e g)
theorem locP_zero (d e g : Nat) : mkM d d idF = locP d e g 0 := by
  unfold locP mkM
  refine List.map_congr_left fun i hi => ?_
  rw [List.mem_range] at hi
  exact mkRow_congr fun j _ => by simp [locF, hi]
theorem locP_succ (d e g k : Nat) (hk : k < g) : locP d e g (k + 1) = locP d e g k ++ [mkRow d (onesF k e)] := by
  unfold locP mkM
  rw [← Nat.add_assoc, List.range_succ, List.map_append]
  congr 1
  simp only [List.map_cons, List.map_nil, List.cons.injEq, and_true]
  exact mkRow_congr fun j _ => by
    show (if d + k < d then _ else if d + k < d + g then _ else _) = _
    rw [if_neg (by omega), if_pos (by omega), Nat.add_sub_cancel_left]
theorem locM_eq (g e q : Nat) : locP (g * e) e g g ++ mkM q (g * e) (cauF (g * e)) = locM g e q := by
  unfold locP locM
  generalize g * e = d
  apply List.ext_getElem
  · simp
  · intro i h1 h2
    rcases Nat.lt_or_ge i (d + g) with h | h
    · rw [List.getElem_append_left (by simpa using h)]
      simp only [mkM, List.getElem_map, List.getElem_range]
    · rw [List.getElem_append_right (by simpa using h)]
      simp only [mkM, List.getElem_map, List.getElem_range, List.length_map, List.length_range]
      exact mkRow_congr fun j _ => by
        show _ = (if i < d then _ else if i < d + g then _ else _)
        rw [if_neg (by omega), if_neg (by omega), show i - d - g = i - (d + g) by omega]
def locR (g e q : Int) : Mat := if locOk g e q = true then locM g.toNat e.toNat q.toNat else []
theorem locR_yes {g e q : Nat} (h : locOk g e q = true) : locR g e q = locM g e q := by unfold locR; rw [if_pos h]; simp
theorem locR_no {g e q : Int} (h : locOk g e q = false) : locR g e q = [] := by unfold locR; rw [if_neg (by rw [h]; simp)]
theorem locR_siz (g e q : Int) : sizM (locR g e q) ≤ 256 := by
  unfold locR; split
  · rename_i h
    have hb := locOk_b h
    obtain ⟨g, rfl⟩ := Int.eq_ofNat_of_zero_le (show 0 ≤ g by omega)
    obtain ⟨e, rfl⟩ := Int.eq_ofNat_of_zero_le (show 0 ≤ e by omega)
    obtain ⟨q, rfl⟩ := Int.eq_ofNat_of_zero_le (show 0 ≤ q by omega)
    rw [← Int.natCast_mul] at hb
    simp only [Int.toNat_natCast]
    exact sizM_side _ (by omega) (by omega)
  · simp [sizM]
end G294
