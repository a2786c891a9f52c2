/- Disks of one file, as plain mathematics. -/
import Derived.Test.YthibabfojndlkaaHas9
namespace Go.Proofs.Ythibabfojndlkaa
open Go.RowKit Go.Lib
set_option maxRecDepth 100000

def Ok (nm : ByteArray) : Prop := nm.size ≠ 0 ∧ nm.size ≤ 40
def one (room : Int) (nm dat : ByteArray) (syn : Nat) (last : Bool) : Dk := ⟨true, room, [⟨nm, dat, syn, last⟩], false, 0, []⟩
theorem empty_append (s : ByteArray) : (⟨#[]⟩ : ByteArray) ++ s = s := by
  apply ByteArray.ext
  simp [ByteArray.data_append]
theorem refuse_ok {k : Dk} {nm : ByteArray} (hon : k.on = true) (h : Ok nm) : refuse k nm = 0 := by
  unfold refuse
  rw [if_pos hon, if_neg (by obtain ⟨h1, h2⟩ := h; omega)]
theorem getF_one (nm dat : ByteArray) (syn : Nat) (last : Bool) : getF [⟨nm, dat, syn, last⟩] nm = some ⟨nm, dat, syn, last⟩ := by simp [getF, cmpN_self]
theorem used_one (room : Int) (nm dat : ByteArray) (syn : Nat) (last : Bool) : used (one room nm dat syn last).files = dat.size := by simp [one, used]
theorem append_first (room : Int) {nm : ByteArray} (s : ByteArray) (h : Ok nm) (hr : room ≤ 0 ∨ (s.size : Int) ≤ room) : appendD (newD room) nm s = (0, one room nm s 0 false) := by
  unfold appendD
  rw [refuse_ok rfl h, if_neg (by simp), if_neg ?_]
  · simp [newD, getF, putF, goesD, withF, freshF, empty_append, one]
  · rintro (⟨_, h2⟩ | ⟨h1, h2⟩)
    · simp [newD] at h2
    · simp [newD, used] at h1 h2
      omega
theorem append_one {room : Int} {nm dat : ByteArray} {syn : Nat} {last : Bool} (s : ByteArray) (h : Ok nm) (hr : room ≤ 0 ∨ (dat.size : Int) + s.size ≤ room) : appendD (one room nm dat syn last) nm s = (0, one room nm (dat ++ s) syn last) := by
  unfold appendD
  rw [refuse_ok rfl h, if_neg (by simp), if_neg ?_]
  · simp [one, getF_one, putF, goesD, withF, cmpN_self]
  · rintro (⟨h1, _⟩ | ⟨h1, h2⟩)
    · rw [one, getF_one] at h1; cases h1
    · rw [used_one] at h2
      simp only [one] at h1 h2
      omega
theorem append_full {room : Int} {nm dat : ByteArray} {syn : Nat} {last : Bool} (s : ByteArray) (h : Ok nm) (h1 : 0 < room) (h2 : room < (dat.size : Int) + s.size) : appendD (one room nm dat syn last) nm s = (20, one room nm dat syn last) := by
  unfold appendD
  rw [refuse_ok rfl h, if_neg (by simp), if_pos]
  right
  rw [used_one]
  simp only [one]
  omega
theorem append_first_full {room : Int} {nm : ByteArray} (s : ByteArray) (h : Ok nm) (h1 : 0 < room) (h2 : room < s.size) : appendD (newD room) nm s = (20, newD room) := by
  unfold appendD
  rw [refuse_ok rfl h, if_neg (by simp), if_pos]
  right
  simp [newD, used]
  omega
theorem placeE_one {room : Int} {nm dat : ByteArray} {syn : Nat} {last : Bool} (h : Ok nm) : placeE (one room nm dat syn last) nm = 0 := by
  unfold placeE
  rw [refuse_ok rfl h, if_neg (by simp), if_neg (by rw [one, getF_one]; simp)]
theorem fileD_one (room : Int) (nm dat : ByteArray) (syn : Nat) (last : Bool) : fileD (one room nm dat syn last) nm = ⟨nm, dat, syn, last⟩ := by rw [fileD, one, getF_one]; rfl
theorem sync_one {room : Int} {nm dat : ByteArray} {syn : Nat} {last : Bool} (h : Ok nm) : syncD (one room nm dat syn last) nm = (0, one room nm dat dat.size true) := by
  unfold syncD
  rw [placeE_one h, if_neg (by simp), fileD_one]
  simp [one, goesD, putF, lastF, cmpN_self]
theorem remove_one {room : Int} {nm dat : ByteArray} {syn : Nat} {last : Bool} (h : Ok nm) : removeD (one room nm dat syn last) nm = (0, newD room) := by
  unfold removeD
  rw [placeE_one h, if_neg (by simp)]
  simp [one, goesD, dropF, newD, cmpN_self]
theorem placeE_new {room : Int} {nm : ByteArray} (h : Ok nm) : placeE (newD room) nm = 8 := by
  unfold placeE
  rw [refuse_ok rfl h, if_neg (by simp), if_pos (by simp [newD, getF])]
theorem remove_new {room : Int} {nm : ByteArray} (h : Ok nm) : removeD (newD room) nm = (8, newD room) := by
  unfold removeD
  rw [placeE_new h, if_pos (by omega)]
theorem read_one {room : Int} {nm dat : ByteArray} {syn : Nat} {last : Bool} (h : Ok nm) (n : Nat) (hn : n ≤ dat.size) : readD (one room nm dat syn last) nm 0 n = (dat.extract 0 n, 0) := by
  unfold readD
  rw [placeE_one h, if_neg (by simp), fileD_one, if_neg (by simp only []; omega)]
  simp
theorem size_one {room : Int} {nm dat : ByteArray} {syn : Nat} {last : Bool} (h : Ok nm) : sizeD (one room nm dat syn last) nm = (dat.size, 0) := by
  unfold sizeD
  rw [placeE_one h, if_neg (by simp), fileD_one]
theorem unsyn_one {room : Int} {nm dat : ByteArray} {syn : Nat} {last : Bool} (h : Ok nm) : unsynD (one room nm dat syn last) nm = dat.size - syn := by
  unfold unsynD
  rw [placeE_one h, if_neg (by simp), fileD_one]
/-- Off, and on again, with one file that lasts. -/
def offK (room : Int) (l : List Fl) : Dk := ⟨false, room, l, false, 0, []⟩
theorem crash_one {room : Int} {nm dat : ByteArray} {syn : Nat} {ks : List Int} {K : Nat} (hs : syn ≤ dat.size) (hK : K = syn + min (ks.headD 0).toNat (dat.size - syn)) : crashD (one room nm dat syn true) ks = offK room [⟨nm, dat.extract 0 K, K, true⟩] ∧ lostD (one room nm dat syn true) ks = dat.size - K := by
  have hk : keepN ⟨nm, dat, syn, true⟩ (ks.headD 0) = K := by rw [hK]; rfl
  have hl : (dat.extract 0 K).size = K := by rw [ByteArray.size_extract]; omega
  constructor
  · unfold crashD one offK
    rw [if_pos rfl]
    simp only [crashL, hk]
    rw [if_pos (.inr (by trivial))]
    simp [lastF, cutF, hl]
  · unfold lostD one
    rw [if_pos rfl]
    simp only [lostL, hk, Nat.add_zero]
theorem restore_off (room : Int) (nm dat : ByteArray) (syn : Nat) (last : Bool) : { offK room [⟨nm, dat, syn, last⟩] with on := true } = one room nm dat syn last := rfl
theorem sm_one {room : Int} {nm dat : ByteArray} {syn : Nat} {last : Bool} {n : Nat} (h : dat.size + n ≤ 70368744177664) (hr : -9223372036854775808 ≤ room ∧ room ≤ 9223372036854775807) : Sm (one room nm dat syn last) n := ⟨by simp [one], by rw [used_one]; exact h, hr⟩
theorem sm_new {room : Int} {n : Nat} (h : n ≤ 70368744177664) (hr : -9223372036854775808 ≤ room ∧ room ≤ 9223372036854775807) : Sm (newD room) n := ⟨by simp [newD], by simp [newD, used]; exact h, hr⟩
end Go.Proofs.Ythibabfojndlkaa
