package api_test

import (
	"sieve/api"
	"sieve/auto"
	"sieve/brace"
	"sieve/ere"
	"sieve/expr"
	"sieve/glob"
	"sieve/ignore"
	"sieve/path"
	"sieve/sieve"
	"sieve/tree"
	"sieve/walk"
)

// The calls that the chapters list, as they list them: this file does not
// build without one.
var (
	_ func(string) []string                                                     = path.Parts
	_ func(string) string                                                       = path.Base
	_ func(string, string) string                                               = path.Join
	_ func(string) (int, bool)                                                  = path.Size
	_ func(string) ([]api.Node, api.Errno, int)                                 = tree.Load
	_ func([]api.Node) string                                                   = tree.Print
	_ func([]api.Node, int, string, bool) (int, api.Errno)                      = tree.Find
	_ func([]api.Node, int) string                                              = tree.Way
	_ func(api.Expr, string) bool                                               = auto.Match
	_ func(api.Expr) (int, api.Errno)                                           = auto.States
	_ func(api.Expr, api.Expr) (string, bool, api.Errno)                        = auto.Differ
	_ func(string, bool) (api.Expr, api.Errno, int)                             = glob.Parse
	_ func(string, string, bool, bool) (bool, api.Errno)                        = glob.Match
	_ func(string) ([]string, api.Errno)                                        = brace.Expand
	_ func(string) (api.Expr, api.Errno, int)                                   = ere.Parse
	_ func(string, string) (bool, api.Errno)                                    = ere.Match
	_ func(string) []api.Rule                                                   = ignore.Read
	_ func(api.Rule, string, bool) bool                                         = ignore.Hits
	_ func([]api.Node, int) bool                                                = ignore.Ignored
	_ func([]string) (api.Test, api.Errno, int)                                 = expr.Parse
	_ func(api.Test) bool                                                       = expr.Acts
	_ func([]api.Node, []string, api.Test, api.Options) (api.Result, api.Errno) = walk.Walk
	_ func(string, []string, int) (api.Result, api.Errno, int)                  = sieve.Run
)
