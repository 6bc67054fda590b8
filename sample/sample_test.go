package sample

import (
	"slices"
	"testing"

	"virgation/api"
	"virgation/scheme"
)

func TestSchemes(t *testing.T) {
	list := Schemes(1000)
	again := Schemes(1000)
	orders := map[int]int{}
	for i, s := range list {
		if e := scheme.Check(s); e != api.OK {
			t.Fatal(i, e)
		}
		if !scheme.Same(s, again[i]) || !slices.Equal(s.Syms, Symbols()) {
			t.Error(i)
		}
		n, _ := scheme.Order(s)
		orders[n]++
	}
	for n := range 3 {
		if orders[n+1] < 20 {
			t.Error("too few of the order", n+1, orders[n+1])
		}
	}
	if len(list) != 1000 || scheme.Same(list[0], list[1]) || len(Schemes(0)) != 0 {
		t.Error(len(list))
	}
}

func TestChance(t *testing.T) {
	r := new(Chance)
	met := map[int]int{}
	for range 1000 {
		met[r.Below(5)]++
	}
	for n := range 5 {
		if met[n] < 100 {
			t.Error(n, met[n])
		}
	}
	if len(met) != 5 {
		t.Error(met)
	}
}
