package graph_test

import (
	"fmt"
	"slices"
	"strings"
	"testing"

	"tollbar/api"
	"tollbar/probe"
)

type die = probe.Die

var (
	kept          = probe.Kept
	refusedStores = probe.RefusedStores
	prefixes      = probe.Prefixes
)

// adj: of numbers, a node and a cost by turns.
func adj(drain bool, numbers ...int) api.Adj {
	a := api.Adj{Drain: drain}
	for i := 0; i < len(numbers); i += 2 {
		a.Sides = append(a.Sides, api.Side{Node: numbers[i], Cost: numbers[i+1]})
	}
	return a
}

func sameAdj(a, b api.Adj) bool { return a.Drain == b.Drain && slices.Equal(a.Sides, b.Sides) }

func wantCode(t *testing.T, what string, got, want api.Errno) {
	t.Helper()
	if got != want {
		t.Errorf("%.200s: code %d, want %d", what, got, want)
	}
}

// refusedAdjs: what CheckAdj refuses, and with which code.
func refusedAdjs() map[string]struct {
	a    api.Adj
	code api.Errno
} {
	type row = struct {
		a    api.Adj
		code api.Errno
	}
	return map[string]row{
		"node below 0":                  {adj(false, -1, 5), api.ErrRange},
		"node too great":                {adj(true, 0, 1, api.MaxNodes, 5), api.ErrRange},
		"least node of all":             {adj(false, -1<<63, 5), api.ErrRange},
		"greatest node of all":          {adj(false, 1<<63-1, 5), api.ErrRange},
		"cost 0":                        {adj(false, 3, 0), api.ErrRange},
		"cost below 0":                  {adj(false, 3, -1), api.ErrRange},
		"cost too great":                {adj(true, 3, 1, 4, api.MaxCost+1), api.ErrRange},
		"greatest cost of all":          {adj(false, 3, 1<<63-1), api.ErrRange},
		"node twice":                    {adj(false, 3, 1, 3, 1), api.ErrOrder},
		"nodes fall":                    {adj(true, 3, 1, 2, 1), api.ErrOrder},
		"nodes fall at the end":         {adj(false, 1, 1, 3, 1, 2, 1), api.ErrOrder},
		"order ahead of range":          {adj(false, 3, 1, 2, 1, 4, 0), api.ErrOrder},
		"range ahead of order":          {adj(false, 3, 0, 2, 1), api.ErrRange},
		"order and cost of one":         {adj(false, 3, 1, 2, 0), api.ErrRange},
		"order and node of one":         {adj(false, 3, 1, -1, 1), api.ErrRange},
		"one side more than all nodes":  {adj(false, slices.Concat(allNodes(1), []int{11, 1})...), api.ErrOrder},
		"many sides, the last one far":  {adj(false, slices.Concat(allNodes(1), []int{12, 1})...), api.ErrRange},
		"the greatest numbers in texts": {adj(false, 100000, 100000), api.ErrRange},
	}
}

// allNodes: each one, and the same cost, by turns.
func allNodes(cost int) []int {
	var l []int
	for n := range api.MaxNodes {
		l = append(l, n, cost)
	}
	return l
}

// refusedPrefixes: what CheckPrefixes refuses, and with which code.
func refusedPrefixes() map[string]struct {
	l    []api.Prefix
	code api.Errno
} {
	type row = struct {
		l    []api.Prefix
		code api.Errno
	}
	return map[string]row{
		"too many":                  {prefixes(0, 8, 1, 8, 2, 8, 3, 8, 4, 8, 5, 8, 6, 8), api.ErrSize},
		"too many, and none is one": {make([]api.Prefix, api.MaxOwn+1), api.ErrSize},
		"far too many":              {make([]api.Prefix, 1000), api.ErrSize},
		"bits below 0":              {prefixes(0, -1), api.ErrRange},
		"bits too many":             {prefixes(0, 0, 0, api.Bits+1), api.ErrRange},
		"least bits of all":         {prefixes(0, -1<<63), api.ErrRange},
		"greatest bits of all":      {prefixes(1, 1<<63-1), api.ErrRange},
		"address below 0":           {prefixes(-1, 8), api.ErrRange},
		"address below 0, of none":  {prefixes(-256, 0), api.ErrRange},
		"address too great":         {prefixes(api.MaxAddr+1, 8), api.ErrRange},
		"address too great, of 0":   {prefixes(256, 0), api.ErrRange},
		"least address of all":      {prefixes(-1<<63, 0), api.ErrRange},
		"greatest address of all":   {prefixes(1<<63-1, 8), api.ErrRange},
		"a bit of none":             {prefixes(1, 0), api.ErrForm},
		"the highest bit of none":   {prefixes(128, 0), api.ErrForm},
		"a bit behind one":          {prefixes(64, 1), api.ErrForm},
		"the lowest bit behind 7":   {prefixes(255, 7), api.ErrForm},
		"a prefix twice":            {prefixes(64, 2, 64, 2), api.ErrOrder},
		"addresses fall":            {prefixes(64, 2, 0, 8), api.ErrOrder},
		"bits fall":                 {prefixes(64, 3, 64, 2), api.ErrOrder},
		"order at the end":          {prefixes(0, 0, 64, 2, 0, 1), api.ErrOrder},
		"order ahead of range":      {prefixes(64, 2, 0, 0, 0, 9), api.ErrOrder},
		"order ahead of form":       {prefixes(64, 2, 0, 0, 1, 1), api.ErrOrder},
		"form ahead of order":       {prefixes(1, 1, 0, 0), api.ErrForm},
		"form and order of one":     {prefixes(64, 2, 1, 1), api.ErrForm},
		"range and order of one":    {prefixes(64, 2, 0, 9), api.ErrRange},
		"range ahead of form":       {prefixes(0, 9, 1, 1), api.ErrRange},
		"form ahead of range":       {prefixes(1, 1, 2, 9), api.ErrForm},
	}
}

// told: sides as a text, whatever they are.
func told(a api.Adj) string {
	var parts []string
	for _, s := range a.Sides {
		parts = append(parts, fmt.Sprintf("%d=%d", s.Node, s.Cost))
	}
	if a.Drain {
		return "!" + strings.Join(parts, ",")
	}
	return strings.Join(parts, ",")
}

// toldPrefixes as a text, whatever they are.
func toldPrefixes(l []api.Prefix) string {
	var parts []string
	for _, p := range l {
		parts = append(parts, fmt.Sprintf("%d/%d", p.Addr, p.Bits))
	}
	return strings.Join(parts, ",")
}
