/- A block at first: its values, name by name, and by the program's way. Plain: no program. -/
import Derived.Test.YtceokbmejnopoaaGreatDoorBunY27
namespace Go.Proofs.YtceokbmejnopoaaGreatDoor
open Go Go.RowKit Go.PlainAid
set_option linter.unusedSimpArgs false
set_option linter.unusedVariables false

def firstV (b : Bk) (x : ByteArray) : Int := if findM (varsM b) x < 0 then 0 else (b.vars.getD (findM (varsM b) x).toNat ⟨noName, 0⟩).num
def firstVals (b : Bk) : List Int := (namesM b).map (firstV b)
theorem findM_nodup {l : List ByteArray} (h : l.Nodup) {k : Nat} (hk : k < l.length) : findM l l[k] = k :=
  findM_at hk rfl (fun j hj e => by
    have := List.pairwise_iff_getElem.1 h j k (by omega) hk hj
    exact this e)
theorem firstVals_eq {b : Bk} (h : NamesOk b) : firstVals b = List.replicate ((concatM b).length - b.vars.length) 0 ++ b.vars.map Vr.num := by
  have e := names_eq h
  obtain ⟨⟨_, _, _, hv, _⟩, ⟨h1, h2, h3⟩, _⟩ := h
  unfold firstVals
  rw [e]
  unfold concatM
  rw [← List.append_assoc, List.map_append]
  have hl : ((valsM b.ins ++ valsM b.outs) ++ varsM b).length - b.vars.length = (valsM b.ins ++ valsM b.outs).length := by
    rw [List.length_append (bs := varsM b)]
    simp [varsM]
  rw [hl]
  congr 1
  · apply List.ext_getElem
    · simp
    · intro i hi hi2
      simp only [List.length_map] at hi
      simp only [List.getElem_map, List.getElem_replicate]
      unfold firstV
      rw [if_pos]
      rw [findM_neg]
      have hm := List.getElem_mem hi
      rcases List.mem_append.1 hm with hx | hx
      · exact h2 _ hx
      · exact h3 _ hx
  · apply List.ext_getElem
    · simp [varsM]
    · intro i hi hi2
      simp only [List.length_map] at hi hi2
      simp only [List.getElem_map]
      unfold firstV
      rw [findM_nodup (show (varsM b).Nodup from hv.2.1.2) hi, if_neg (by omega)]
      simp [hi2]
end Go.Proofs.YtceokbmejnopoaaGreatDoor
