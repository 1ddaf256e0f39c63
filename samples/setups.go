package samples

import (
	"math"

	"lodestone/api"
)

// LeastSetup is the setup with the least numbers; vectors have so many.
func LeastSetup(dim int) api.Setup {
	return api.Setup{Dim: dim, Degree: 1, Beam: 1, Num: 1, Den: 1}
}

// MostSetup is the setup with the greatest numbers.
func MostSetup() api.Setup {
	return api.Setup{Dim: api.MaxDim, Degree: api.MaxDegree, Beam: api.MaxHits, Num: api.MaxAlpha, Den: api.MaxAlpha}
}

// WideSetup lets vectors have so many numbers, and nodes as many neighbours as can be.
func WideSetup(dim int) api.Setup {
	s := MostSetup()
	s.Dim = dim
	return s
}

// Setups are some for vectors of so many numbers, with so many neighbours or more.
func Setups(dim, degree int) []api.Setup {
	return []api.Setup{
		{Dim: dim, Degree: degree, Beam: 1, Num: 1, Den: 1},
		{Dim: dim, Degree: degree, Beam: 3, Num: 4, Den: 1},
		{Dim: dim, Degree: degree, Beam: 256, Num: 1000, Den: 1},
		{Dim: dim, Degree: degree + 1, Beam: 2, Num: 1000, Den: 1},
		{Dim: dim, Degree: degree + 2, Beam: 5, Num: 6, Den: 5},
		WideSetup(dim),
	}
}

// SetupFields are a setup's numbers, one by one, with their limits.
func SetupFields(s *api.Setup) ([]*int, []int) {
	return []*int{&s.Dim, &s.Degree, &s.Beam, &s.Num, &s.Den}, []int{64, 32, 256, 1000, 1000}
}

// WrongSetups may not be: one number is wrong, or all of them. But for that, vectors have one number.
func WrongSetups() []api.Setup {
	l := []api.Setup{{}, {Dim: -1, Degree: -1, Beam: -1, Num: -1, Den: -1}}
	for _, good := range []api.Setup{LeastSetup(1), WideSetup(1), {Dim: 1, Degree: 3, Beam: 4, Num: 6, Den: 5}} {
		for field := range 5 {
			_, limits := SetupFields(&good)
			for _, n := range append(FarNumbers(), 0, limits[field]+1, limits[field]+256) {
				s := good
				numbers, _ := SetupFields(&s)
				*numbers[field] = n
				l = append(l, s)
			}
		}
		good.Num, good.Den = 3, 4
		l = append(l, good)
		good.Num, good.Den = 999, 1000
		l = append(l, good)
	}
	return l
}

// FarNumbers are far from all places, and from all that a setup may have; the low bits of some are near.
func FarNumbers() []int {
	far := []int{-1, -2, math.MinInt, math.MinInt + 1, math.MaxInt}
	for _, n := range []int64{-1 << 32, -1<<32 + 1, 1 << 32, 1<<32 + 1, 1<<32 + 2, 1 << 62} {
		// Where an int has 32 bits, they are no ints.
		if int64(int(n)) == n {
			far = append(far, int(n))
		}
	}
	return far
}
