package samples_test

import (
	"math"
	"testing"

	"lodestone/api"
	"lodestone/graph"
	"lodestone/samples"
)

func TestSetups(t *testing.T) {
	for _, dim := range []int{1, 9, api.MaxDim} {
		least, wide := samples.LeastSetup(dim), samples.WideSetup(dim)
		if least != (api.Setup{Dim: dim, Degree: 1, Beam: 1, Num: 1, Den: 1}) {
			t.Errorf("%+v", least)
		}
		if wide != (api.Setup{Dim: dim, Degree: 32, Beam: 256, Num: 1000, Den: 1000}) {
			t.Errorf("%+v", wide)
		}
	}
	if samples.MostSetup() != samples.WideSetup(64) {
		t.Errorf("%+v", samples.MostSetup())
	}
}

// They may be, and have as many neighbours as is asked for, or more.
func TestSomeSetups(t *testing.T) {
	for _, dim := range []int{1, 9, api.MaxDim} {
		for degree := 1; degree <= api.MaxDegree-2; degree++ {
			least := api.MaxDegree
			for _, s := range samples.Setups(dim, degree) {
				least = min(least, s.Degree)
				if !graph.Setup(s) || s.Dim != dim || s.Degree < degree {
					t.Errorf("%+v", s)
				}
			}
			if least != degree {
				t.Errorf("%d neighbours at least; want %d", least, degree)
			}
		}
	}
}

func TestSetupFields(t *testing.T) {
	s := samples.MostSetup()
	numbers, limits := samples.SetupFields(&s)
	for i, n := range numbers {
		if *n != limits[i] {
			t.Errorf("%d: %d; its limit is %d", i, *n, limits[i])
		}
		*n = i + 1
	}
	if s != (api.Setup{Dim: 1, Degree: 2, Beam: 3, Num: 4, Den: 5}) {
		t.Errorf("%+v", s)
	}
}

func TestWrongSetups(t *testing.T) {
	unlike := map[api.Setup]int{}
	for _, s := range samples.WrongSetups() {
		if graph.Setup(s) {
			t.Errorf("%+v", s)
		}
		unlike[s]++
	}
	if len(unlike) < 100 {
		t.Errorf("%d setups", len(unlike))
	}
}

func TestFarNumbers(t *testing.T) {
	for _, n := range samples.FarNumbers() {
		if n >= 0 && n < math.MaxInt32 {
			t.Errorf("%d", n)
		}
	}
}
